/-
  What is proved here: the two functions ReadDecimal, as walks. Conditions: the text is one that a machine can hold; the library's variables hold what it lays.
-/
import Derived.Test.YtegbclfjcckglaaDoorRdA
import Derived.Test.YtegbclfjcckglaaDoorDecB
import Derived.Test.YtegbclfjcckglaaDoorShelfB
import Derived.Shelf.Strconv.ErrVarParseInt
import Derived.Laws.RangeString
import Derived.Laws.RangeAny
namespace Go.Proofs.YtegbclfjcckglaaDoor
open Go.RowKit

def rdN (s : ByteArray) : Int := (decR s.data.toList).getD 0
def rdB (s : ByteArray) : Bool := (decR s.data.toList).isSome

/-- what both give -/
def RPost (s : ByteArray) (w : World) (e : Ending) (w' : World) : Prop := e = .returned (.tuple #[.int .i64 (rdN s), .bool (rdB s)]) ∧ Below w.heap.size w w'

theorem rpost_no {s : ByteArray} {w w' : World} (h : decR s.data.toList = none) (hb : Below w.heap.size w w') : RPost s w (.returned (.tuple #[.int .i64 0, .bool false])) w' :=
  ⟨by unfold rdN rdB; rw [h]; rfl, hb⟩
theorem rpost_yes {s : ByteArray} {n : Int} {w w' : World} (h : decR s.data.toList = some n) (hb : Below w.heap.size w w') : RPost s w (.returned (.tuple #[.int .i64 n, .bool true])) w' :=
  ⟨by unfold rdN rdB; rw [h]; rfl, hb⟩

theorem size_list (s : ByteArray) : s.data.toList.length = s.size := by simp

theorem decR_long {s : ByteArray} (h : s.size < 1 ∨ 17 < s.size) : decR s.data.toList = none :=
  decR_none fun n h1 h2 => by
    have := itoa_short h1
    rw [h2, size_list] at this
    omega

/-- what has been counted before a place -/
def svTo (s : ByteArray) (k : Nat) : Nat := sval (s.data.toList.take k)
theorem svTo_step (s : ByteArray) (k : Nat) (h : k < s.size) : svTo s (k + 1) = if isD (s[k]'h) = true then 10 * svTo s k + ((s[k]'h).toNat - 48) else svTo s k := by
  unfold svTo sval
  rw [List.take_succ_eq_append_getElem (by rw [size_list]; exact h), List.foldl_append]
  rfl
theorem sval_lt (l : List UInt8) : sval l < 10 ^ l.length := by
  have : ∀ (l : List UInt8) (acc B : Nat), acc < B → l.foldl (fun a c => if isD c = true then 10 * a + (c.toNat - 48) else a) acc < B * 10 ^ l.length := by
    intro l
    induction l with
    | nil => intro acc B h; simpa using h
    | cons c l ih =>
      intro acc B h
      rw [List.foldl_cons, List.length_cons, Nat.pow_succ, Nat.mul_comm _ 10, ← Nat.mul_assoc]
      refine ih _ _ ?_
      split
      · rename_i hc
        have := of_decide_eq_true hc
        omega
      · omega
  have := this l 0 1 (by decide)
  unfold sval
  omega
theorem svTo_lt (s : ByteArray) (k : Nat) (h : s.size ≤ 17) : (svTo s k : Int) ≤ 100000000000000000 := by
  have h1 := sval_lt (s.data.toList.take k)
  have h2 : (s.data.toList.take k).length ≤ 17 := Nat.le_trans (List.length_take_le' _ _) (by rw [size_list]; exact h)
  have h3 : 10 ^ (s.data.toList.take k).length ≤ 10 ^ 17 := Nat.pow_le_pow_right (by decide) h2
  have h4 : (10 : Nat) ^ 17 = 100000000000000000 := by decide
  unfold svTo
  omega

theorem in_val (n : Int) (w : World) :
    Calls Tryd.prog 119 #[.int .i64 n, .int .i64 (-1000000000000000), .int .i64 1000000000000000] w fun e w' => e = .returned (.bool (decide (okV n))) ∧ w = w' := by
  by_cases h1 : -1000000000000000 ≤ n
  · by_cases h2 : n ≤ 1000000000000000
    · have N : Hid (decide (okV n) = true) := decide_eq_true ⟨h1, h2⟩
      go_enter Tryd.func119, Tryd.ntmps119
      go_wp2
      go_ret
      exact ⟨by rw [N.out]; rfl, rfl⟩
    · have N : Hid (decide (okV n) = false) := decide_eq_false fun h => h2 h.2
      go_enter Tryd.func119, Tryd.ntmps119
      go_wp2
      go_ret
      exact ⟨by rw [N.out]; rfl, rfl⟩
  · have N : Hid (decide (okV n) = false) := decide_eq_false fun h => h1 h.1
    go_enter Tryd.func119, Tryd.ntmps119
    go_wp2
    go_ret
    exact ⟨by rw [N.out]; rfl, rfl⟩

theorem is_val (n : Int) (w : World) :
    Calls Tryd.prog 83 #[.int .i64 n] w fun e w' => e = .returned (.bool (decide (okV n))) ∧ w = w' := by
  by_cases h1 : -1000000000000000 ≤ n
  · by_cases h2 : n ≤ 1000000000000000
    · have N : Hid (decide (okV n) = true) := decide_eq_true ⟨h1, h2⟩
      go_enter Tryd.func83, Tryd.ntmps83
      go_wp2
      go_ret
      exact ⟨by rw [N.out]; rfl, rfl⟩
    · have N : Hid (decide (okV n) = false) := decide_eq_false fun h => h2 h.2
      go_enter Tryd.func83, Tryd.ntmps83
      go_wp2
      go_ret
      exact ⟨by rw [N.out]; rfl, rfl⟩
  · have N : Hid (decide (okV n) = false) := decide_eq_false fun h => h1 h.1
    go_enter Tryd.func83, Tryd.ntmps83
    go_wp2
    go_ret
    exact ⟨by rw [N.out]; rfl, rfl⟩

theorem specDecT (n : Int) (t : ByteArray) (ht : Hid (t = ⟨(Lib.itoa n).toArray⟩)) (h : okV n) (w : World) :
    Calls Tryd.prog 114 #[.int .i64 n] w fun e w' => e = .returned (.string t) ∧ Below w.heap.size w w' := by
  rw [ht.out]; exact specDec n (by have := h.1; omega) (by have := h.2; omega) w
theorem implDecT (n : Int) (t : ByteArray) (ht : Hid (t = ⟨(Lib.itoa n).toArray⟩)) (h : okV n) (w : World) (hp : Pow w) :
    Calls Tryd.prog 85 #[.int .i64 n] w fun e w' => e = .returned (.string t) ∧ Below w.heap.size w w' := by
  rw [ht.out]; exact implDec n (by have := h.1; omega) (by have := h.2; omega) w hp

theorem text_eq {n : Int} {s : ByteArray} (h : Lib.itoa n = s.data.toList) : Hid (s = ⟨(Lib.itoa n).toArray⟩) := by
  show s = _; rw [h]
theorem text_ne {n : Int} {s t : ByteArray} (ht : Hid (t = ⟨(Lib.itoa n).toArray⟩)) (h : ¬ Lib.itoa n = s.data.toList) : (t.toList == s.toList) = false := by
  rw [beq_eq_false_iff_ne, Go.ByteArray.toList_eq, Go.ByteArray.toList_eq, ht.out]
  simpa using h

theorem decR_not {l : List UInt8} (h : ¬ okV (sgn l)) : decR l = none := by unfold decR; rw [if_neg fun g => h g.1]
theorem decR_other {l : List UInt8} (h : ¬ Lib.itoa (sgn l) = l) : decR l = none := by unfold decR; rw [if_neg fun g => h g.2]

theorem svTo_all (s : ByteArray) : svTo s s.size = sval s.data.toList := by
  unfold svTo; rw [List.take_of_length_le (by rw [size_list]; exact Nat.le_refl _)]
theorem head_minus {s : ByteArray} (h : 0 < s.size) : (s.data.toList.head? = some 45) ↔ (s[0]'h).toNat = 45 := by
  have : s.data.toList.head? = some (s[0]'h) := by
    rw [List.head?_eq_getElem?, List.getElem?_eq_getElem (by rw [size_list]; exact h)]; rfl
  rw [this]
  constructor
  · intro e; injection e with e; rw [e]; rfl
  · intro e; congr 1; exact UInt8.toNat_inj.1 (by rw [e]; rfl)

theorem specRd (s : ByteArray) (hs : s.size ≤ 1048576) (w : World) :
    Calls Tryd.prog 96 #[.string s] w (RPost s w) := by
  by_cases hl : s.size < 1
  · have N := Lib.hid (decR_long (.inl hl))
    go_enter Tryd.func96, Tryd.ntmps96
    go_wp2
    go_ret2
    exact rpost_no N.out (Below.refl _ _)
  by_cases hm : 17 < s.size
  · have N := Lib.hid (decR_long (.inr hm))
    have hl' : 1 ≤ s.size := by omega
    go_enter Tryd.func96, Tryd.ntmps96
    go_wp2
    go_ret2
    exact rpost_no N.out (Below.refl _ _)
  have hl' : 1 ≤ s.size := by omega
  have hm' : s.size ≤ 17 := by omega
  have h9 : decide ((s.size : Int) < 1) = false := decide_eq_false (by omega)
  clear hl hm
  go_enter Tryd.func96, Tryd.ntmps96
  go_wp2
  clear h9
  go_loop [4, 5] (fun n i => ∃ k : Nat, k ≤ s.size ∧ i = .int .i64 k ∧ n = .int .i64 (svTo s k)) (fun _ i => s.size - (intOf i).toNat)
  case atStart => exact ⟨0, Nat.zero_le _, rfl, rfl⟩
  case round =>
    obtain ⟨k, hk, rfl, rfl⟩ := hrel
    have hb := svTo_lt s k hm'
    by_cases hlt : k < s.size
    · have hst := svTo_step s k hlt
      by_cases h1 : (s[k]'hlt).toNat < 48
      · have N : Hid (svTo s (k + 1) = svTo s k) := by show svTo s (k + 1) = _; rw [hst, if_neg (by unfold isD; simp; omega)]
        clear hst
        go_wp2
        go_round
        case rel => exact ⟨k + 1, by omega, by go_num, by rw [N.out]⟩
        case measure => simp [intOf]; omega
      · by_cases h2 : 57 < (s[k]'hlt).toNat
        · have N : Hid (svTo s (k + 1) = svTo s k) := by show svTo s (k + 1) = _; rw [hst, if_neg (by unfold isD; simp; omega)]
          clear hst
          go_wp2
          go_round
          case rel => exact ⟨k + 1, by omega, by go_num, by rw [N.out]⟩
          case measure => simp [intOf]; omega
        · have N : Hid ((svTo s (k + 1) : Int) = 10 * (svTo s k : Int) + (((s[k]'hlt).toNat : Int) - 48)) := by show (svTo s (k + 1) : Int) = _; rw [hst, if_pos (by unfold isD; simp; omega)]; omega
          clear hst
          go_wp2
          go_round
          case rel => exact ⟨k + 1, by omega, by go_num, by rw [N.out]⟩
          case measure => simp [intOf]; omega
    · have e : k = s.size := by omega
      subst e
      have h0 : 0 < s.size := by omega
      have hh := head_minus h0
      rw [svTo_all] at hb ⊢
      by_cases hs0 : (s[0]'h0).toNat = 45
      · have hc0 : (((s[0]'h0).toNat : Int) == 45) = true := by rw [hs0]; rfl
        have HS : Hid (sgn s.data.toList = -(sval s.data.toList : Int)) := by show sgn _ = _; unfold sgn; rw [if_pos (hh.2 hs0)]
        clear hh hs0 hlt
        by_cases hok : okV (-(sval s.data.toList : Int))
        · by_cases hit : Lib.itoa (-(sval s.data.toList : Int)) = s.data.toList
          · have HT := Lib.hid (text_eq hit)
            have D : Hid (decR s.data.toList = some (-(sval s.data.toList : Int))) := decR_of hok hit
            have HO := Lib.hid hok
            have hdk : decide (okV (-(sval s.data.toList : Int))) = true := decide_eq_true hok
            clear hok hit
            go_wp2_with (first | (go_at_call 119; refine (in_val _ _).mono ?_; rintro e w' ⟨rfl, rfl⟩) | (go_at_call 114; refine (specDecT (-(sval s.data.toList : Int)) s HT.out HO.out _).mono ?_; rintro e w1 ⟨rfl, hb1⟩; have HB1 := Lib.hid hb1; clear hb1))
            go_ret2
            exact rpost_yes D.out HB1.out
          · obtain ⟨t, ht⟩ : ∃ t : ByteArray, t = ⟨(Lib.itoa (-(sval s.data.toList : Int))).toArray⟩ := ⟨_, rfl⟩
            have HT := Lib.hid ht
            have hne := text_ne HT hit
            have D : Hid (decR s.data.toList = none) := decR_other (by rw [show sgn s.data.toList = (-(sval s.data.toList : Int)) from HS.out]; exact hit)
            have HO := Lib.hid hok
            have hdk : decide (okV (-(sval s.data.toList : Int))) = true := decide_eq_true hok
            clear hok hit ht
            go_wp2_with (first | (go_at_call 119; refine (in_val _ _).mono ?_; rintro e w' ⟨rfl, rfl⟩) | (go_at_call 114; refine (specDecT (-(sval s.data.toList : Int)) t HT HO.out _).mono ?_; rintro e w1 ⟨rfl, hb1⟩; have HB1 := Lib.hid hb1; clear hb1))
            go_ret2
            exact rpost_no D.out HB1.out
        · have D : Hid (decR s.data.toList = none) := decR_not (by rw [show sgn s.data.toList = (-(sval s.data.toList : Int)) from HS.out]; exact hok)
          have hdk : decide (okV (-(sval s.data.toList : Int))) = false := decide_eq_false hok
          clear hok
          go_wp2_with (go_at_call 119; refine (in_val _ _).mono ?_; rintro e w' ⟨rfl, rfl⟩)
          go_ret2
          exact rpost_no D.out (Below.refl _ _)
      · have hc0 : (((s[0]'h0).toNat : Int) == 45) = false := by simp; omega
        have HS : Hid (sgn s.data.toList = (sval s.data.toList : Int)) := by show sgn _ = _; unfold sgn; rw [if_neg fun e => hs0 (hh.1 e)]
        clear hh hs0 hlt
        by_cases hok : okV (sval s.data.toList : Int)
        · by_cases hit : Lib.itoa (sval s.data.toList : Int) = s.data.toList
          · have HT := Lib.hid (text_eq hit)
            have D : Hid (decR s.data.toList = some (sval s.data.toList : Int)) := decR_of hok hit
            have HO := Lib.hid hok
            have hdk : decide (okV (sval s.data.toList : Int)) = true := decide_eq_true hok
            clear hok hit
            go_wp2_with (first | (go_at_call 119; refine (in_val _ _).mono ?_; rintro e w' ⟨rfl, rfl⟩) | (go_at_call 114; refine (specDecT (sval s.data.toList : Int) s HT.out HO.out _).mono ?_; rintro e w1 ⟨rfl, hb1⟩; have HB1 := Lib.hid hb1; clear hb1))
            go_ret2
            exact rpost_yes D.out HB1.out
          · obtain ⟨t, ht⟩ : ∃ t : ByteArray, t = ⟨(Lib.itoa (sval s.data.toList : Int)).toArray⟩ := ⟨_, rfl⟩
            have HT := Lib.hid ht
            have hne := text_ne HT hit
            have D : Hid (decR s.data.toList = none) := decR_other (by rw [show sgn s.data.toList = (sval s.data.toList : Int) from HS.out]; exact hit)
            have HO := Lib.hid hok
            have hdk : decide (okV (sval s.data.toList : Int)) = true := decide_eq_true hok
            clear hok hit ht
            go_wp2_with (first | (go_at_call 119; refine (in_val _ _).mono ?_; rintro e w' ⟨rfl, rfl⟩) | (go_at_call 114; refine (specDecT (sval s.data.toList : Int) t HT HO.out _).mono ?_; rintro e w1 ⟨rfl, hb1⟩; have HB1 := Lib.hid hb1; clear hb1))
            go_ret2
            exact rpost_no D.out HB1.out
        · have D : Hid (decR s.data.toList = none) := decR_not (by rw [show sgn s.data.toList = (sval s.data.toList : Int) from HS.out]; exact hok)
          have hdk : decide (okV (sval s.data.toList : Int)) = false := decide_eq_false hok
          clear hok
          go_wp2_with (go_at_call 119; refine (in_val _ _).mono ?_; rintro e w' ⟨rfl, rfl⟩)
          go_ret2
          exact rpost_no D.out (Below.refl _ _)

/-- what is known of the library's variables -/
structure Vars (w : World) : Prop where
  pow : Pow w
  syn : ∃ tp p, w.var? Tryd.prog "strconv.ErrSyntax" = some #[.iface tp p]
  rng : ∃ tp p, w.var? Tryd.prog "strconv.ErrRange" = some #[.iface tp p]

theorem gSyn : Tryd.prog.globalNamed "strconv.ErrSyntax" = some 4 := by kernel_rfl
theorem gRng : Tryd.prog.globalNamed "strconv.ErrRange" = some 5 := by kernel_rfl
theorem Vars.below {w w' : World} (h : Vars w) (hb : Below w.heap.size w w') : Vars w' := by
  obtain ⟨h1, ⟨t1, p1, h2⟩, ⟨t2, p2, h3⟩⟩ := h
  exact ⟨h1.below hb, ⟨t1, p1, Joins.var_stays gSyn h2 hb (Nat.le_refl _)⟩, ⟨t2, p2, Joins.var_stays gRng h3 hb (Nat.le_refl _)⟩⟩

/-- the library's reading fails -/
theorem parse_bad (s : ByteArray) (hs : s.size ≤ 1048576) (hp : ∀ v, Lib.parseIntB 64 s.data.toList ≠ .ok v) (w : World) (hv : Vars w) :
    Calls Tryd.prog 100 #[.string s, .int .i64 10, .int .i64 64] w fun e w' => ∃ n tp p, e = .returned (.tuple #[.int .i64 n, .iface tp p]) ∧ Below w.heap.size w w' := by
  obtain ⟨_, ⟨t1, p1, h2⟩, ⟨t2, p2, h3⟩⟩ := hv
  cases e : Lib.parseIntB 64 s.data.toList with
  | ok v => exact absurd e (hp v)
  | range =>
    refine (Any.strconv_ParseInt_10_at64_range_var Go.Proofs.Tryd.laysC174 s (by omega) e t2 p2 w h3).mono ?_
    rintro e w' ⟨N, rfl, _, _, hb⟩
    exact ⟨_, _, _, rfl, hb⟩
  | _ =>
    refine (Any.strconv_ParseInt_10_at64_syntax_var Go.Proofs.Tryd.laysC174 s (by omega) e t1 p1 w h2).mono ?_
    rintro e w' ⟨N, rfl, _, _, hb⟩
    exact ⟨_, _, _, rfl, hb⟩

theorem parse_ok (s : ByteArray) (hs : s.size ≤ 1048576) (v : Int) (hp : Lib.parseIntB 64 s.data.toList = .ok v) (w : World) :
    Calls Tryd.prog 100 #[.string s, .int .i64 10, .int .i64 64] w fun e w' => e = .returned (.tuple #[.int .i64 v, .nilIface]) ∧ Below w.heap.size w w' := by
  refine (Any.strconv_ParseInt_10_at64_ok Go.Proofs.Tryd.laysC174 s (by omega) v hp w).mono ?_
  rintro e w' ⟨rfl, hw⟩
  refine ⟨rfl, ?_⟩
  rcases hw with rfl | ⟨t, rfl⟩
  · exact Below.refl _ _
  · exact Joins.below_bytesWorld _ _ _ _ (Nat.le_refl _)

theorem implRd (s : ByteArray) (hs : s.size ≤ 1048576) (w : World) (hv : Vars w) :
    Calls Tryd.prog 53 #[.string s] w (RPost s w) := by
  have HV := Lib.hid hv
  clear hv
  by_cases hp : ∃ v, Lib.parseIntB 64 s.data.toList = .ok v
  · obtain ⟨N, hp⟩ := hp
    have HP := Lib.hid hp
    have HD := Lib.hid (decR_parse hp)
    clear hp
    by_cases hok : okV N
    · by_cases hit : Lib.itoa N = s.data.toList
      · have HT := Lib.hid (text_eq hit)
        have D : Hid (decR s.data.toList = some N) := decR_of hok hit
        have HO := Lib.hid hok
        have hdk : decide (okV N) = true := decide_eq_true hok
        clear hok hit
        go_enter Tryd.func53, Tryd.ntmps53
        go_wp2_with (first | (go_at_call 100; refine (parse_ok s hs N HP.out _).mono ?_; rintro e w1 ⟨rfl, hb1⟩; have HB1 := Lib.hid hb1; clear hb1) | (go_at_call 83; refine (is_val _ _).mono ?_; rintro e w' ⟨rfl, rfl⟩) | (go_at_call 85; refine (implDecT N s HT.out HO.out _ (HV.out.below HB1.out).pow).mono ?_; rintro e w2 ⟨rfl, hb2⟩; have HB2 := Lib.hid hb2; clear hb2))
        go_ret2
        exact rpost_yes D.out (HB1.out.trans (HB2.out.mono HB1.out.size))
      · obtain ⟨t, ht⟩ : ∃ t : ByteArray, t = ⟨(Lib.itoa N).toArray⟩ := ⟨_, rfl⟩
        have HT := Lib.hid ht
        have hne := text_ne HT hit
        have D : Hid (decR s.data.toList = none) := by show decR _ = none; rw [HD.out, if_neg fun g => hit g.2]
        have HO := Lib.hid hok
        have hdk : decide (okV N) = true := decide_eq_true hok
        clear hok hit ht
        go_enter Tryd.func53, Tryd.ntmps53
        go_wp2_with (first | (go_at_call 100; refine (parse_ok s hs N HP.out _).mono ?_; rintro e w1 ⟨rfl, hb1⟩; have HB1 := Lib.hid hb1; clear hb1) | (go_at_call 83; refine (is_val _ _).mono ?_; rintro e w' ⟨rfl, rfl⟩) | (go_at_call 85; refine (implDecT N t HT HO.out _ (HV.out.below HB1.out).pow).mono ?_; rintro e w2 ⟨rfl, hb2⟩; have HB2 := Lib.hid hb2; clear hb2))
        go_ret2
        exact rpost_no D.out (HB1.out.trans (HB2.out.mono HB1.out.size))
    · have D : Hid (decR s.data.toList = none) := by show decR _ = none; rw [HD.out, if_neg fun g => hok g.1]
      have hdk : decide (okV N) = false := decide_eq_false hok
      clear hok
      go_enter Tryd.func53, Tryd.ntmps53
      go_wp2_with (first | (go_at_call 100; refine (parse_ok s hs N HP.out _).mono ?_; rintro e w1 ⟨rfl, hb1⟩; have HB1 := Lib.hid hb1; clear hb1) | (go_at_call 83; refine (is_val _ _).mono ?_; rintro e w' ⟨rfl, rfl⟩))
      go_ret2
      exact rpost_no D.out HB1.out
  · have hp' : ∀ v, Lib.parseIntB 64 s.data.toList ≠ .ok v := fun v e => hp ⟨v, e⟩
    have HP := Lib.hid hp'
    have D := Lib.hid (decR_bad hp')
    clear hp hp'
    go_enter Tryd.func53, Tryd.ntmps53
    go_wp2_with (go_at_call 100; refine (parse_bad s hs HP.out _ HV.out).mono ?_; rintro e w1 ⟨n, tp, p, rfl, hb1⟩; have HB1 := Lib.hid hb1; clear hb1)
    go_ret2
    exact rpost_no D.out HB1.out


end Go.Proofs.YtegbclfjcckglaaDoor
