/-
  What is proved here: RecoverJournal of the program, as a walk. Conditions: the text has at most 1048576 bytes; the library's variables hold what it lays.
-/
import Derived.Test.YtegbclfjcckglaaDoorRjp
import Derived.Test.YtegbclfjcckglaaDoorNrq
import Derived.Test.YtegbclfjcckglaaDoorShelfF
import Derived.Test.YtegbclfjcckglaaDoorShelfG
import Derived.Laws.Concat
namespace Go.Proofs.YtegbclfjcckglaaDoor
open Go.RowKit

theorem ba_extJ {a b : ByteArray} (h : a.data.toList = b.data.toList) : a = b := by
  cases a; cases b
  congr 1
  exact Array.ext' h
theorem ba_appJ (a b : ByteArray) : (a ++ b).data.toList = a.data.toList ++ b.data.toList := by
  cases a; cases b
  rw [ByteArray.mk_append_mk]

/-- the library's variables: the powers of ten, and a length -/
structure VarsJ (w : World) : Prop where
  pow : Pow w
  most : Most w
theorem VarsJ.below {w w' : World} (h : VarsJ w) (hb : Below w.heap.size w w') : VarsJ w' := ⟨h.pow.below hb, h.most.below hb⟩

def entB (c : Int) (l : ByteArray) : ByteArray := ⟨(entT c l.data.toList).toArray⟩

theorem entryOf_is (c : Int) (l : ByteArray) (hc : 0 ≤ c ∧ c < 65003) (hs : l.size ≤ 1048576) (w : World) (hp : Pow w) :
    Calls Tryd.prog 73 #[.int .i64 c, .string l] w fun e w' => e = .returned (.tuple #[.string (entB c l), .int .i64 (chk c l.data.toList)]) ∧ Below w.heap.size w w' := by
  have HP := Lib.hid hp
  have HC := fun W => implCheck c l hc hs W
  have hb := chk_bd c l.data.toList hc
  have HD := fun W h => implDec (chk c l.data.toList) (by omega) (by omega) W h
  have hl := (itoa_short (n := chk c l.data.toList) ⟨by omega, by omega⟩).2
  have s1 : (⟨(Lib.itoa (chk c l.data.toList)).toArray⟩ : ByteArray).size ≤ 22 := by show (List.toArray _).size ≤ _; simp; omega
  have a1 : ∀ W : World, (Op.stringOp .add ⟨(Lib.itoa (chk c l.data.toList)).toArray⟩ ⟨#[32]⟩).run Tryd.prog W = .ok (.string ((⟨(Lib.itoa (chk c l.data.toList)).toArray⟩ : ByteArray) ++ ⟨#[32]⟩)) W := fun W => run_string_add_sum W _ _ (by show _ + 1 ≤ _; omega)
  have a2 : ∀ W : World, (Op.stringOp .add ((⟨(Lib.itoa (chk c l.data.toList)).toArray⟩ : ByteArray) ++ ⟨#[32]⟩) l).run Tryd.prog W = .ok (.string (((⟨(Lib.itoa (chk c l.data.toList)).toArray⟩ : ByteArray) ++ ⟨#[32]⟩) ++ l)) W := fun W => run_string_add_sum W _ _ (by rw [ByteArray.size_append]; show _ + 1 + _ ≤ _; omega)
  have a3 : ∀ W : World, (Op.stringOp .add (((⟨(Lib.itoa (chk c l.data.toList)).toArray⟩ : ByteArray) ++ ⟨#[32]⟩) ++ l) ⟨#[10]⟩).run Tryd.prog W = .ok (.string (entB c l)) W := fun W => by
    have e : entB c l = (((⟨(Lib.itoa (chk c l.data.toList)).toArray⟩ : ByteArray) ++ ⟨#[32]⟩) ++ l) ++ ⟨#[10]⟩ := by
      apply ba_extJ
      rw [ba_appJ, ba_appJ, ba_appJ]
      unfold entB entT
      simp
    rw [e]
    exact run_string_add_sum W _ _ (by rw [ByteArray.size_append, ByteArray.size_append]; show _ + 1 + _ + 1 ≤ _; omega)
  have H1 := Lib.hid HC
  have H2 := Lib.hid HD
  clear HC HD hb hl s1 hp
  generalize entB c l = z4 at *
  generalize ((⟨(Lib.itoa (chk c l.data.toList)).toArray⟩ : ByteArray) ++ ⟨#[32]⟩) ++ l = z3 at *
  generalize (⟨(Lib.itoa (chk c l.data.toList)).toArray⟩ : ByteArray) ++ ⟨#[32]⟩ = z2 at *
  generalize (⟨(Lib.itoa (chk c l.data.toList)).toArray⟩ : ByteArray) = z1 at *
  generalize chk c l.data.toList = cc at *
  go_enter Tryd.func73, Tryd.ntmps73
  go_wp2_with fail
  refine (H1.out _).mono ?_
  rintro e w1 ⟨rfl, b1⟩
  have B1 := Lib.hid b1
  clear b1
  go_wp2_with fail
  refine (H2.out _ (HP.out.below B1.out)).mono ?_
  rintro e w2 ⟨rfl, b2⟩
  have B2 := Lib.hid (B1.out.trans (b2.mono B1.out.size))
  clear b2
  go_wp2_with fail
  go_ret2
  exact ⟨rfl, B2.out⟩

theorem cutPre_no (s p : ByteArray) (h : Lib.hasPrefix s.data.toList p.data.toList = false) (w : World) :
    Calls Tryd.prog 79 #[.string s, .string p] w fun e w' => e = .returned (.tuple #[.string s, .bool false]) ∧ w = w' := by
  have H : Hid (∀ W, Calls Tryd.prog 143 #[.string s, .string p] W fun e w' => e = .returned (.bool false) ∧ w' = W) := fun W => by
    rw [← h]; exact Tryd.stringslite_HasPrefix s p W
  have H2 : Hid (∀ W, Calls Tryd.prog 118 #[.string s, .string p] W fun e w' => e = .returned (.tuple #[.string s, .bool false]) ∧ W = w') := fun W => by
    clear h
    go_enter Tryd.func118, Tryd.ntmps118
    go_wp2_with fail
    refine (H.out _).mono ?_
    rintro e w' ⟨rfl, rfl⟩
    go_wp2_with fail
    go_ret2
    exact ⟨rfl, rfl⟩
  clear h H
  go_enter Tryd.func79, Tryd.ntmps79
  go_wp2_with fail
  refine (H2.out _).mono ?_
  rintro e w' ⟨rfl, rfl⟩
  go_wp2_with fail
  go_ret2
  exact ⟨rfl, rfl⟩

theorem cutPre_yes (s p : ByteArray) (h : Lib.hasPrefix s.data.toList p.data.toList = true) (hl : p.size ≤ s.size) (w : World) :
    Calls Tryd.prog 79 #[.string s, .string p] w fun e w' => e = .returned (.tuple #[.string (s.extract p.size s.size), .bool true]) ∧ w = w' := by
  have H : Hid (∀ W, Calls Tryd.prog 143 #[.string s, .string p] W fun e w' => e = .returned (.bool true) ∧ w' = W) := fun W => by
    rw [← h]; exact Tryd.stringslite_HasPrefix s p W
  have H2 : Hid (∀ W, Calls Tryd.prog 118 #[.string s, .string p] W fun e w' => e = .returned (.tuple #[.string (s.extract p.size s.size), .bool true]) ∧ W = w') := fun W => by
    clear h
    go_enter Tryd.func118, Tryd.ntmps118
    go_wp2_with fail
    refine (H.out _).mono ?_
    rintro e w' ⟨rfl, rfl⟩
    go_wp2_with fail
    go_ret2
    exact ⟨rfl, rfl⟩
  clear h H
  go_enter Tryd.func79, Tryd.ntmps79
  go_wp2_with fail
  refine (H2.out _).mono ?_
  rintro e w' ⟨rfl, rfl⟩
  go_wp2_with fail
  go_ret2
  exact ⟨rfl, rfl⟩

/-- what is recovered -/
def rjB (s : ByteArray) : Bool := decide (s.size ≤ 16000)
def rjL (s : ByteArray) : List ByteArray := if rjB s = true then (recA 0 (cutD 10 s.data.toList)).1.map bytesD else []
def rjN (s : ByteArray) : Int := if rjB s = true then ((recA 0 (cutD 10 s.data.toList)).2 : Int) else 0
def RJP (s : ByteArray) (w : World) (e : Ending) (w' : World) : Prop :=
  ∃ A c, e = .returned (.tuple #[.slice A (rjL s).length c, .int .i64 (rjN s), .bool (rjB s)]) ∧ Hid (w'.ownsRow w.heap.size 9 1 (.slice A (rjL s).length c) (rjL s).length ((rjL s).map Value.string)) ∧ Hid (Below w.heap.size w w')

theorem own_base {w : World} {G size n cap : Nat} {e : TypeId} {A : Option Addr} {xs : List Value} (h : w.ownsRow G e size (.slice A n cap) n xs) : ∀ q, (Value.slice A n cap).ownBlock = some q → G ≤ q := by
  intro q hq
  rcases h.2 with ⟨h1, _⟩ | ⟨g, c, cur, h1, h2, _⟩
  · injection h1 with h1 _ _
    subst h1
    cases hq
  · injection h1 with h1 _ _
    subst h1
    obtain rfl := Option.some.inj hq
    exact h2

theorem cut_call (d : UInt8) (s : ByteArray) (hs : s.size ≤ 1048576) (w : World) (hm : Most w) :
    Calls Tryd.prog 52 #[.string s, .string ⟨#[d]⟩] w fun e w' => ∃ b, e = .returned (.tuple #[.string ⟨(Lib.cut s.data.toList [d]).1.toArray⟩, .string ⟨(Lib.cut s.data.toList [d]).2.1.toArray⟩, .bool b]) ∧ Below w.heap.size w w' := by
  obtain ⟨m, hm⟩ := hm
  refine (Tryd.strings_Cut s ⟨#[d]⟩ m w (by omega) hm).mono ?_
  rintro e w' ⟨rfl, n, rfl⟩
  exact ⟨_, rfl, rfl, rfl, rfl, Nat.le_refl _, fun _ _ => rfl⟩

theorem cut_small (d : UInt8) (l : List UInt8) : (Lib.cut l [d]).1.length ≤ l.length ∧ (Lib.cut l [d]).2.1.length ≤ l.length := by
  rcases cutL d l with ⟨_, h⟩ | ⟨p, r, h1, _, h⟩
  · rw [h]; simp
  · rw [h, h1]; simp; omega

set_option maxHeartbeats 4000000 in
theorem implRJ (s : ByteArray) (hs : s.size ≤ 1048576) (w : World) (hv : VarsJ w) : Calls Tryd.prog 32 #[.string s] w (RJP s w) := by
  by_cases hbig : 16000 < s.size
  · have e1 : rjB s = false := decide_eq_false (by omega)
    have e2 : rjL s = [] := by unfold rjL; rw [e1]; rfl
    have e3 : rjN s = 0 := by unfold rjN; rw [e1]; rfl
    have N := Lib.hid (And.intro e1 (And.intro e2 e3))
    clear e1 e2 e3 hv
    go_enter Tryd.func32, Tryd.ntmps32
    go_wp2_with fail
    go_ret3
    exact ⟨none, 0, by rw [N.out.1, N.out.2.1, N.out.2.2]; rfl, by rw [N.out.2.1]; exact World.ownsRow_nil _ _ _ _, Below.refl _ _⟩
  have e1 : rjB s = true := decide_eq_true (by omega)
  have e2 : rjL s = (recA 0 (cutD 10 s.data.toList)).1.map bytesD := by unfold rjL; rw [e1]; rfl
  have e3 : rjN s = ((recA 0 (cutD 10 s.data.toList)).2 : Int) := by unfold rjN; rw [e1]; rfl
  have N := Lib.hid (And.intro e1 (And.intro e2 e3))
  have HV := Lib.hid hv
  obtain ⟨i0, hi, hz0, hz1, hz2⟩ := info_parts info_str2
  have HI := Lib.hid (And.intro hi (And.intro hz0 (And.intro hz1 hz2)))
  clear e1 e2 e3 hv hi hz0 hz1 hz2
  have hsz16 : s.size ≤ 16000 := by omega
  clear hbig
  have O0 : Hid (w.ownsRow w.heap.size 9 1 (.slice none 0 0) 0 []) := World.ownsRow_nil _ _ _ _
  have B0 : Hid (Below w.heap.size w w) := Below.refl _ _
  go_enter Tryd.func32, Tryd.ntmps32
  go_wp2_with fail
  generalize hG : w.heap.size = G at *
  have HG := Lib.hid hG
  clear hG
  have HV : Hid (∀ W, Below G w W → VarsJ W) := fun W h => HV.out.below (by rw [HG.out]; exact h)
  go_loopw [5, 6, 7] (fun v q rest wr => ∃ (O : List ByteArray) (c : Int) (r : ByteArray) (A : Option Addr) (cap : Nat), v = .slice A O.length cap ∧ q = .int .i64 c ∧ rest = .string r ∧ 0 ≤ c ∧ c < 65003 ∧ r.size ≤ s.size ∧ O.length + r.size ≤ s.size ∧ Hid (wr.ownsRow G 9 1 (.slice A O.length cap) O.length (O.map Value.string)) ∧ Hid (recA 0 (cutD 10 s.data.toList) = (O.map (·.data.toList) ++ (recA c (cutD 10 r.data.toList)).1, (s.size - r.size) + (recA c (cutD 10 r.data.toList)).2)) ∧ Hid (Below G w wr)) (fun _ _ rest _ => match rest with | .string r => r.size | _ => 0)
  case atStart => exact ⟨[], 0, s, none, 0, rfl, rfl, rfl, by omega, by omega, Nat.le_refl _, by simp, O0, by show _ = _; rw [Nat.sub_self, Nat.zero_add]; rfl, B0⟩
  case round =>
    obtain ⟨O, c, r, A, cap, rfl, rfl, rfl, hc0, hc1, hr, hOr, hO, hE, hB⟩ := hrel
    have hsz : Hid (G ≤ wr.heap.size) := by show G ≤ wr.heap.size; rw [← HG.out]; exact hB.out.size
    obtain ⟨BB, hBB⟩ : ∃ BB : ByteArray, BB = ⟨(Lib.cut r.data.toList [32]).2.1.toArray⟩ := ⟨_, rfl⟩
    obtain ⟨LL, hLL⟩ : ∃ LL : ByteArray, LL = ⟨(Lib.cut BB.data.toList [10]).1.toArray⟩ := ⟨_, rfl⟩
    have hBl : BB.data.toList = (Lib.cut r.data.toList [32]).2.1 := by rw [hBB]
    have hLl : LL.data.toList = (Lib.cut (Lib.cut r.data.toList [32]).2.1 [10]).1 := by rw [hLL, hBl]
    have hBs : BB.size ≤ 1048576 := by
      have := (cut_small 32 r.data.toList).2
      rw [← hBl, size_list, size_list] at this
      omega
    have hLs : LL.size ≤ 1048576 := by
      have := (cut_small 10 BB.data.toList).1
      rw [hBl, ← hLl, ← hBl, size_list, size_list] at this
      omega
    have hkey := key_entry ⟨hc0, hc1⟩ r.data.toList
    rw [← hLl] at hkey
    have hcb := chk_bd c LL.data.toList ⟨hc0, hc1⟩
    have H1 : Hid (∀ W, Below G w W → Calls Tryd.prog 52 #[.string r, .string ⟨#[32]⟩] W fun e w' => ∃ x b, e = .returned (.tuple #[.string x, .string BB, .bool b]) ∧ Below W.heap.size W w') := fun W h => (cut_call 32 r (by omega) W (HV.out W h).most).mono fun e w' ⟨b, h1, h2⟩ => ⟨⟨(Lib.cut r.data.toList [32]).1.toArray⟩, b, by rw [h1, hBB], h2⟩
    have H2 : Hid (∀ W, Below G w W → Calls Tryd.prog 52 #[.string BB, .string ⟨#[10]⟩] W fun e w' => ∃ x b, e = .returned (.tuple #[.string LL, .string x, .bool b]) ∧ Below W.heap.size W w') := fun W h => (cut_call 10 BB hBs W (HV.out W h).most).mono fun e w' ⟨b, h1, h2⟩ => ⟨⟨(Lib.cut BB.data.toList [10]).2.1.toArray⟩, b, by rw [h1, hLL], h2⟩
    have H3 : Hid (∀ W, Below G w W → Calls Tryd.prog 73 #[.int .i64 c, .string LL] W fun e w' => e = .returned (.tuple #[.string (entB c LL), .int .i64 (chk c LL.data.toList)]) ∧ Below W.heap.size W w') := fun W h => entryOf_is c LL ⟨hc0, hc1⟩ hLs W (HV.out W h).pow
    clear hBB hLL hBl hLl hBs
    rcases hkey with ⟨hp, hrec⟩ | ⟨o, hro, hrec⟩
    · have H4 : Hid (∀ W, Calls Tryd.prog 79 #[.string r, .string (entB c LL)] W fun e w' => e = .returned (.tuple #[.string r, .bool false]) ∧ W = w') := fun W => cutPre_no r (entB c LL) hp W
      have M : Hid (rjL s = O ∧ rjN s = ((s.size - r.size : Nat) : Int)) := by
        have := hE.out
        rw [hrec, List.append_nil, Nat.add_zero] at this
        refine ⟨?_, ?_⟩
        · rw [N.out.2.1, this]; exact list_backD O
        · rw [N.out.2.2, this]
      have esub : ((s.size : Int) - (r.size : Int)) = ((s.size - r.size : Nat) : Int) := by omega
      clear hp hrec hE hLs hcb
      generalize entB c LL = ee at *
      generalize chk c LL.data.toList = cc at *
      go_wp2_with fail
      refine (H1.out _ hB.out).mono ?_
      rintro e w1 ⟨x1, b1, rfl, d1⟩
      have B1 := Lib.hid (hB.out.trans (d1.mono hsz.out))
      have S1 := Lib.hid (own_below hO.out d1)
      have z1 := Lib.hid (Nat.le_trans hsz.out d1.size)
      clear d1 hO hB
      go_wp2_with fail
      refine (H2.out _ B1.out).mono ?_
      rintro e w2 ⟨x2, b2, rfl, d2⟩
      have B2 := Lib.hid (B1.out.trans (d2.mono z1.out))
      have S2 := Lib.hid (own_below S1.out d2)
      have z2 := Lib.hid (Nat.le_trans z1.out d2.size)
      clear d2 S1 B1
      go_wp2_with fail
      refine (H3.out _ B2.out).mono ?_
      rintro e w3 ⟨rfl, d3⟩
      have B3 := Lib.hid (B2.out.trans (d3.mono z2.out))
      have S3 := Lib.hid (own_below S2.out d3)
      clear d3 S2 B2
      go_wp2_with fail
      refine (H4.out _).mono ?_
      rintro e w4 ⟨rfl, rfl⟩
      go_wp2_with fail
      go_ret3
      exact ⟨A, cap, by rw [N.out.1, M.out.1, M.out.2]; rfl, by rw [M.out.1, HG.out]; exact S3, by rw [HG.out]; exact B3⟩
    · have hpre : Lib.hasPrefix r.data.toList (entB c LL).data.toList = true := by rw [hro]; exact pre_true _ _
      have hlen : r.size = (entB c LL).size + o.length := by
        have := congrArg List.length hro
        rw [size_list, List.length_append] at this
        rw [this]
        show (entT c LL.data.toList).length + _ = (List.toArray _).size + _
        simp
      have hpos : 3 ≤ (entB c LL).size := by
        show 3 ≤ (List.toArray _).size
        have : 0 < (Lib.itoa (chk c LL.data.toList)).length := by
          unfold Lib.itoa
          rw [if_neg (by omega)]
          exact dd_pos _
        unfold entT
        simp
        omega
      have H4 : Hid (∀ W, Calls Tryd.prog 79 #[.string r, .string (entB c LL)] W fun e w' => e = .returned (.tuple #[.string (r.extract (entB c LL).size r.size), .bool true]) ∧ W = w') := fun W => cutPre_yes r (entB c LL) hpre (by omega) W
      obtain ⟨r2, hr2⟩ : ∃ r2 : ByteArray, r2 = r.extract (entB c LL).size r.size := ⟨_, rfl⟩
      have hr2l : r2.data.toList = o := by
        rw [hr2, Lib.extract_data, hro]
        have e : (entB c LL).size = (entT c LL.data.toList).length := by show (List.toArray _).size = _; simp
        rw [e, List.drop_left' rfl, List.take_of_length_le (by rw [hlen, e]; omega)]
      have hr2s : r2.size = o.length := by rw [← size_list, hr2l]
      rw [← hr2] at H4
      have E2 : Hid (recA 0 (cutD 10 s.data.toList) = ((O ++ [LL]).map (·.data.toList) ++ (recA (chk c LL.data.toList) (cutD 10 r2.data.toList)).1, (s.size - r2.size) + (recA (chk c LL.data.toList) (cutD 10 r2.data.toList)).2)) := by
        show _ = _
        rw [hE.out, hrec, hr2l]
        have e : (entB c LL).size = (entT c LL.data.toList).length := by show (List.toArray _).size = _; simp
        rw [← e]
        congr 1
        · simp
        · rw [hr2s]; omega
      have g1 : r2.size ≤ s.size := by omega
      have g2 : (O ++ [LL]).length + r2.size ≤ s.size := by simp; omega
      have g3 : r2.size < r.size := by omega
      have g4 : O.length ≤ 16000 := by omega
      clear hpre hlen hpos hr2 hr2l hr2s hro hrec hE hLs
      generalize entB c LL = ee at *
      generalize chk c LL.data.toList = cc at *
      go_wp2_with fail
      refine (H1.out _ hB.out).mono ?_
      rintro e w1 ⟨x1, b1, rfl, d1⟩
      have B1 := Lib.hid (hB.out.trans (d1.mono hsz.out))
      have S1 := Lib.hid (own_below hO.out d1)
      have z1 := Lib.hid (Nat.le_trans hsz.out d1.size)
      clear d1 hO hB
      go_wp2_with fail
      refine (H2.out _ B1.out).mono ?_
      rintro e w2 ⟨x2, b2, rfl, d2⟩
      have B2 := Lib.hid (B1.out.trans (d2.mono z1.out))
      have S2 := Lib.hid (own_below S1.out d2)
      have z2 := Lib.hid (Nat.le_trans z1.out d2.size)
      clear d2 S1 B1
      go_wp2_with fail
      refine (H3.out _ B2.out).mono ?_
      rintro e w3 ⟨rfl, d3⟩
      have B3 := Lib.hid (B2.out.trans (d3.mono z2.out))
      have S3 := Lib.hid (own_below S2.out d3)
      have z3 := Lib.hid (Nat.le_trans z2.out d3.size)
      clear d3 S2 B2
      go_wp2_with fail
      refine (H4.out _).mono ?_
      rintro e w4 ⟨rfl, rfl⟩
      go_wp2_with (at_builtin; refine wpList_append_own _ rfl _ _ 44 rfl G 9 i0 (.string ⟨#[]⟩) 1 16 Tryd.underlying44 HI.out.1 HI.out.2.1 HI.out.2.2.1 HI.out.2.2.2 rfl (by decide) _ O.length (O.map Value.string) rfl (World.ownsRow.alloc S3.out _) ⟨w3.heap.size, 0, none⟩ 1 1 [.string LL] rfl rfl (World.ownsRow.cells (World.ownsRow_lit (base := G) (e := 9) (size := 1) w3 #[.string LL] 1 z3.out (by decide) rfl) rfl) (by intro u hu; rw [List.mem_singleton.1 hu]; rfl) (by unfold maxLen; omega) (by omega) (by simp; exact Nat.le_succ_of_le z3.out) ?_)
      intro v' w5 h2 hg2 hv2
      obtain ⟨gg, c2, rfl, O2⟩ := OwnS.of (P := O ++ [LL]) (by rw [List.map_append]; exact h2) (by simp) hv2
      have HB5 := Lib.hid ((B3.out.alloc z3.out _).grown hg2 (by simp; exact Nat.le_succ_of_le z3.out) (fun q hq => own_base S3.out q hq))
      have HO5 := Lib.hid O2
      clear hv2 hg2 h2 O2 S3 B3
      go_wp2_with fail
      go_roundw
      case rel => exact ⟨O ++ [LL], cc, r2, _, c2, by first | rfl | simp, rfl, rfl, hcb.1, hcb.2, g1, g2, HO5, E2, HB5⟩
      case measure => exact g3

end Go.Proofs.YtegbclfjcckglaaDoor
