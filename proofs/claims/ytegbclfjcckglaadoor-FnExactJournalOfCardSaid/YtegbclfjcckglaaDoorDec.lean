/-
  What is proved here: the decimal text of an integer, as the model of the document writes it, as a walk. Conditions: the integer is a 64-bit one.
-/
import Derived.Test.YtegbclfjcckglaaDoorChecked
import Derived.WalkKit
import Derived.WalkLawsBesides
import Derived.WalkSpells
import Derived.IntWalk
import Derived.Lib.Hide
import Derived.OwnWalk
import Derived.LoopTactic
import Derived.Laws.MakeOwn
import Derived.Laws.AppendOwn
import Derived.Lib.ItoaMem
import Derived.Lib.ItoaLen
import Derived.Lib.ItoaNum
import Derived.Outline
namespace Go.Proofs.YtegbclfjcckglaaDoor
open Go.RowKit

def lenV : Value → Nat | .slice _ n _ => n | _ => 0
def bytesV (l : List UInt8) : List Value := l.map fun b => .int .u8 (b.toNat : Int)

/-- what has been written, and what is left -/
def DecSt (n : Int) (L : List UInt8) (r : Int) : Prop :=
  (L = [] ∧ r = n) ∨ (0 < L.length ∧ ((r = 0 ∧ L = Lib.decDigits n.natAbs) ∨ (r ≠ 0 ∧ Lib.decDigits r.natAbs ++ L = Lib.decDigits n.natAbs)))

theorem info_u8 : (Tryd.prog.info? 5).map (fun i => (i.zero, i.size, i.bytes)) = some (some (.int .u8 0), 1, 1) := by kernel_rfl

/-- bytes that the call owns -/
def OwnB (w : World) (G : Nat) (L : List UInt8) (g c : Nat) : Prop := w.ownsRow G 5 1 (.slice (some ⟨g, 0, none⟩) L.length c) L.length (bytesV L)

theorem bytesV_one (l : List UInt8) : ∀ u ∈ bytesV l, u.oneCell' = true := by
  intro u hu
  simp only [bytesV, List.mem_map] at hu
  obtain ⟨_, _, rfl⟩ := hu
  rfl
theorem bytesV_length (l : List UInt8) : (bytesV l).length = l.length := by simp [bytesV]

/-- a digit, as a byte -/
def digB (m : Nat) : UInt8 := UInt8.ofNat (48 + m % 10)
theorem digB_val (m : Nat) : ((digB m).toNat : Int) = 48 + (m : Int) % 10 := by
  unfold digB
  rw [UInt8.toNat_ofNat_of_lt' (by show 48 + m % 10 < 256; omega)]
  omega

theorem dd_small {m : Nat} (h : m < 10) : Lib.decDigits m = [digB m] := by
  rw [Lib.decDigits, dif_pos h]; unfold digB; rw [Nat.mod_eq_of_lt h]
theorem dd_big {m : Nat} (h : ¬ m < 10) : Lib.decDigits m = Lib.decDigits (m / 10) ++ [digB m] := by
  rw [Lib.decDigits, dif_neg h]; rfl
theorem dd_pos (m : Nat) : 0 < (Lib.decDigits m).length := by
  by_cases h : m < 10
  · rw [dd_small h]; simp
  · rw [dd_big h]; simp
theorem dd_len (n : Int) (h0 : -9223372036854775808 ≤ n) (h1 : n ≤ 9223372036854775807) : (Lib.decDigits n.natAbs).length ≤ 21 := by
  have := Lib.itoa_length_le n h0 h1
  unfold Lib.itoa at this
  split at this
  · simp at this; omega
  · rwa [show n.toNat = n.natAbs by omega] at this

theorem DecSt.pre {n r : Int} {L : List UInt8} (h : DecSt n L r) (hc : L = [] ∨ r ≠ 0) : Lib.decDigits r.natAbs ++ L = Lib.decDigits n.natAbs := by
  rcases h with ⟨rfl, rfl⟩ | ⟨hl, ⟨rfl, _⟩ | ⟨_, h⟩⟩
  · rw [List.append_nil]
  · rcases hc with rfl | hc
    · exact absurd hl (Nat.lt_irrefl 0)
    · exact absurd rfl hc
  · exact h

theorem DecSt.next {n r r' : Int} {L : List UInt8} {m : Nat} (h : DecSt n L r) (hc : L = [] ∨ r ≠ 0) (hm : r.natAbs = m) (hr : r'.natAbs = m / 10) : DecSt n (digB m :: L) r' := by
  have hp := h.pre hc
  rw [hm] at hp
  right
  refine ⟨by simp, ?_⟩
  by_cases h10 : m < 10
  · left
    rw [dd_small h10] at hp
    refine ⟨by omega, ?_⟩
    rw [← hp]; rfl
  · right
    refine ⟨by omega, ?_⟩
    rw [dd_big h10] at hp
    rw [hr, ← hp, List.append_assoc]; rfl

theorem DecSt.room {n r : Int} {L : List UInt8} (h : DecSt n L r) (hc : L = [] ∨ r ≠ 0) (h0 : -9223372036854775808 ≤ n) (h1 : n ≤ 9223372036854775807) : L.length + 1 ≤ 21 := by
  have hp := congrArg List.length (h.pre hc)
  have := dd_len n h0 h1
  have := dd_pos r.natAbs
  rw [List.length_append] at hp
  omega

theorem DecSt.end_ {n : Int} {L : List UInt8} (h : DecSt n L 0) (hl : ¬ L.length = 0) : L = Lib.decDigits n.natAbs := by
  rcases h with ⟨rfl, _⟩ | ⟨_, ⟨_, h⟩ | ⟨h, _⟩⟩
  · exact absurd rfl hl
  · exact h
  · exact absurd rfl h

theorem own_lit {w : World} {G : Nat} {b : UInt8} {x : Int} (h : G ≤ w.heap.size) (hx : x = (b.toNat : Int)) : OwnB (w.alloc (.cells #[.int .u8 x] 5)) G [b] w.heap.size 1 := by
  subst hx
  exact World.ownsRow_lit w #[.int .u8 (b.toNat : Int)] 1 h (by decide) rfl

theorem own_lit1 {w : World} {G : Nat} {b : UInt8} {x : Int} (h : G ≤ w.heap.size) (hx : x = (b.toNat : Int)) : (w.alloc (.cells #[.int .u8 x] 5)).ownsRow G 5 1 (.slice (some ⟨w.heap.size, 0, none⟩) 1 1) 1 (bytesV [b]) := own_lit h hx

theorem OwnB.cells {w : World} {G g c : Nat} {L : List UInt8} (h : OwnB w G L g c) : ∀ j u, (bytesV L)[j]? = some u → w.cell? ((⟨g, 0, none⟩ : Addr).add j) = some u := World.ownsRow.cells h rfl

theorem OwnB.of {w : World} {G n : Nat} {v : Value} {L : List UInt8} (h : w.ownsRow G 5 1 v n (bytesV L)) (hn : n = L.length) (hv : v ≠ .slice none 0 0) : ∃ g c, v = .slice (some ⟨g, 0, none⟩) L.length c ∧ OwnB w G L g c := by
  subst hn
  rcases h.2 with ⟨h1, _⟩ | ⟨g, cap, cur, rfl, _⟩
  · exact absurd h1 hv
  · exact ⟨g, cap, rfl, h⟩

theorem OwnB.str {w : World} {G g c : Nat} {L : List UInt8} (h : OwnB w G L g c) : (convert 104 9 (.slice (some ⟨g, 0, none⟩) L.length c)).run Tryd.prog w = .ok (.string ⟨L.toArray⟩) w :=
  run_convert_bytes_back w _ _ _ _ c L Tryd.underlying104 Tryd.underlying5 Tryd.underlying9 fun j hj => h.cells j _ (by simp [bytesV, hj])

theorem specDec (n : Int) (h0 : -9223372036854775808 ≤ n) (h1 : n ≤ 9223372036854775807) (w : World) :
    Calls Tryd.prog 114 #[.int .i64 n] w fun e w' => e = .returned (.string ⟨(Lib.itoa n).toArray⟩) ∧ Below w.heap.size w w' := by
  obtain ⟨i0, hi, hz0, hz1, hz2⟩ := info_parts info_u8
  have HI := Lib.hid (And.intro hi (And.intro hz0 (And.intro hz1 hz2)))
  have O0 : Hid (OwnB (w.alloc (.cells #[] 5)) w.heap.size [] w.heap.size 0) := World.ownsRow_lit w #[] 0 (Nat.le_refl _) (by decide) rfl
  have B0 : Hid (Below w.heap.size w (w.alloc (.cells #[] 5))) := (Below.refl _ _).alloc (Nat.le_refl _) _
  have S0 : Hid (DecSt n [] n) := .inl ⟨rfl, rfl⟩
  clear hi hz0 hz1 hz2
  go_enter Tryd.func114, Tryd.ntmps114
  go_wp2
  generalize w.alloc (.cells #[] 5) = w1 at *
  have hZ : Hid (w.heap.size ≤ w1.heap.size) := B0.out.size
  generalize hG : w.heap.size = G at *
  have HG := Lib.hid hG
  clear hG
  go_loopw [3, 4] (fun o q wr => ∃ (L : List UInt8) (r : Int) (g c : Nat), o = .slice (some ⟨g, 0, none⟩) L.length c ∧ q = .int .i64 r ∧ L.length ≤ 21 ∧ -9223372036854775808 ≤ r ∧ r ≤ 9223372036854775807 ∧ Hid (DecSt n L r) ∧ Hid (OwnB wr G L g c) ∧ Hid (Below G w wr)) (fun o q _ => (intOf q).natAbs + if lenV o = 0 then 1 else 0)
  case atStart => exact ⟨[], n, _, _, rfl, rfl, by decide, h0, h1, S0, O0, B0⟩
  case round =>
    obtain ⟨L, r, g, c, rfl, rfl, hL, hr0, hr1, hS, hO, hB⟩ := hrel
    have hsz : Hid (G ≤ wr.heap.size) := by show G ≤ wr.heap.size; rw [← HG.out]; exact hB.out.size
    by_cases hl : L.length = 0
    · obtain rfl : L = [] := List.eq_nil_of_length_eq_zero hl
      clear hl
      by_cases hn : r < 0
      · obtain ⟨m, rfl⟩ : ∃ m : Nat, r = -(m : Int) := ⟨r.natAbs, by omega⟩
        have hm : (m : Int) ≤ 9223372036854775808 := by omega
        have N1 : Hid (DecSt n [digB m] (-((m : Int) / 10))) := hS.out.next (.inl rfl) (by omega) (by omega)
        go_wp2_with fail
        · rename_i hlt _ _
          have N2 : Hid (OwnB (wr.alloc (.cells #[.int .u8 (48 + (m : Int) % 10)] 5)) G [digB m] wr.heap.size 1) := own_lit hsz.out (digB_val m).symm
          have N3 : Hid (Below G w (wr.alloc (.cells #[.int .u8 (48 + (m : Int) % 10)] 5))) := hB.out.alloc hsz.out _
          go_roundw
          case rel => exact ⟨[digB m], _, _, _, rfl, rfl, by simp, by omega, by omega, N1, N2, N3⟩
          case measure => simp [intOf, lenV]; omega
        · rename_i hlt _ _
          have N2 : Hid (OwnB (wr.alloc (.cells #[.int .u8 (48 + -((m : Int) % 10))] 5)) G [digB m] wr.heap.size 1) := own_lit hsz.out (show 48 + -((m : Int) % 10) = _ by have := digB_val m; omega)
          have N3 : Hid (Below G w (wr.alloc (.cells #[.int .u8 (48 + -((m : Int) % 10))] 5))) := hB.out.alloc hsz.out _
          go_roundw
          case rel => exact ⟨[digB m], _, _, _, rfl, rfl, by simp, by omega, by omega, N1, N2, N3⟩
          case measure => simp [intOf, lenV]; omega
      · obtain ⟨m, rfl⟩ : ∃ m : Nat, r = m := ⟨r.toNat, by omega⟩
        have hm : (m : Int) ≤ 9223372036854775807 := hr1
        have N1 : Hid (DecSt n [digB m] ((m : Int) / 10)) := hS.out.next (.inl rfl) (by omega) (by omega)
        have N2 : Hid (OwnB (wr.alloc (.cells #[.int .u8 (48 + (m : Int) % 10)] 5)) G [digB m] wr.heap.size 1) := own_lit hsz.out (digB_val m).symm
        have N3 : Hid (Below G w (wr.alloc (.cells #[.int .u8 (48 + (m : Int) % 10)] 5))) := hB.out.alloc hsz.out _
        go_wp2_with fail
        go_roundw
        case rel => exact ⟨[digB m], _, _, _, rfl, rfl, by simp, by omega, by omega, N1, N2, N3⟩
        case measure => simp [intOf, lenV]; omega
    · by_cases hn : r = 0
      · subst hn
        have hlb : ((L.length : Int) == 0) = false := by simpa using hl
        have HL := Lib.hid hl
        have HE := Lib.hid (hS.out.end_ hl)
        clear hr0 hr1 hl hS
        by_cases hneg : n < 0
        · have HN : Hid (Lib.itoa n = 45 :: L) := by show Lib.itoa n = 45 :: L; unfold Lib.itoa; rw [if_pos hneg, HE.out]
          go_wp2_with (at_builtin; refine wpList_append_own _ rfl _ _ 104 rfl G 5 i0 (.int .u8 0) 1 1 Tryd.underlying104 HI.out.1 HI.out.2.1 HI.out.2.2.1 HI.out.2.2.2 rfl (by decide) _ _ (bytesV [45]) rfl (own_lit1 hsz.out rfl) ⟨g, 0, none⟩ L.length c (bytesV L) rfl (by simp [bytesV]) (World.ownsRow.cells (World.ownsRow.alloc hO.out _) rfl) (bytesV_one L) (by unfold maxLen; omega) (by omega) (by simp; exact Nat.le_succ_of_le hsz.out) ?_)
          intro v' w2 h2 hg2 hv2
          obtain ⟨g2, c2, rfl, O2⟩ := OwnB.of (L := 45 :: L) h2 (by simp; omega) hv2
          have hstr := O2.str
          have hb2 := (hB.out.alloc hsz.out _).grown hg2 (by simp; exact Nat.le_succ_of_le hsz.out) (fun k hk => by obtain rfl := Option.some.inj hk; exact hsz.out)
          have HB2 := Lib.hid hb2
          clear hb2 hv2 hg2 h2
          simp only [List.length_cons] at *
          go_wp2_with fail
          go_ret
          exact ⟨by rw [HN.out]; rfl, by rw [← HG.out] at HB2; exact HB2.out⟩
        · have HN : Hid (Lib.itoa n = L) := by show Lib.itoa n = L; unfold Lib.itoa; rw [if_neg hneg, HE.out]; congr 1; omega
          have hstr := hO.out.str
          go_wp2_with fail
          go_ret
          exact ⟨by rw [HN.out]; rfl, by rw [← HG.out] at hB; exact hB.out⟩
      · have hlb : ((L.length : Int) == 0) = false := by simpa using hl
        have hrm := hS.out.room (.inr hn) h0 h1
        by_cases hneg : r < 0
        · obtain ⟨m, rfl⟩ : ∃ m : Nat, r = -(m : Int) := ⟨r.natAbs, by omega⟩
          have hm : (m : Int) ≤ 9223372036854775808 := by omega
          have hm0 : 1 ≤ (m : Int) := by omega
          have hne : ((m : Int) == 0) = false := by simp; omega
          have N1 : Hid (DecSt n (digB m :: L) (-((m : Int) / 10))) := hS.out.next (.inr hn) (by omega) (by omega)
          clear hn hneg hr0 hr1
          go_wp2_with (at_builtin; first | (refine wpList_append_own _ rfl _ _ 104 rfl G 5 i0 (.int .u8 0) 1 1 Tryd.underlying104 HI.out.1 HI.out.2.1 HI.out.2.2.1 HI.out.2.2.2 rfl (by decide) _ _ (bytesV [digB m]) rfl (own_lit1 hsz.out (digB_val m).symm) ⟨g, 0, none⟩ L.length c (bytesV L) rfl (by simp [bytesV]) (World.ownsRow.cells (World.ownsRow.alloc hO.out _) rfl) (bytesV_one L) (by unfold maxLen; omega) (by omega) (by simp; exact Nat.le_succ_of_le hsz.out) ?_) | (refine wpList_append_own _ rfl _ _ 104 rfl G 5 i0 (.int .u8 0) 1 1 Tryd.underlying104 HI.out.1 HI.out.2.1 HI.out.2.2.1 HI.out.2.2.2 rfl (by decide) _ _ (bytesV [digB m]) rfl (own_lit1 hsz.out (show 48 + -((m : Int) % 10) = _ by have := digB_val m; omega)) ⟨g, 0, none⟩ L.length c (bytesV L) rfl (by simp [bytesV]) (World.ownsRow.cells (World.ownsRow.alloc hO.out _) rfl) (bytesV_one L) (by unfold maxLen; omega) (by omega) (by simp; exact Nat.le_succ_of_le hsz.out) ?_))
          · intro v' w2 h2 hg2 hv2
            obtain ⟨g2, c2, rfl, O2⟩ := OwnB.of (L := digB m :: L) h2 (by simp; omega) hv2
            have HB2 := Lib.hid ((hB.out.alloc hsz.out _).grown hg2 (by simp; exact Nat.le_succ_of_le hsz.out) (fun k hk => by obtain rfl := Option.some.inj hk; exact hsz.out))
            have HO2 := Lib.hid O2
            clear hv2 hg2 h2 O2
            go_wp2_with fail
            go_roundw
            case rel => exact ⟨digB m :: L, _, g2, c2, rfl, rfl, hrm, by omega, by omega, N1, HO2, HB2⟩
            case measure => simp [intOf, lenV]; omega
          · intro v' w2 h2 hg2 hv2
            obtain ⟨g2, c2, rfl, O2⟩ := OwnB.of (L := digB m :: L) h2 (by simp; omega) hv2
            have HB2 := Lib.hid ((hB.out.alloc hsz.out _).grown hg2 (by simp; exact Nat.le_succ_of_le hsz.out) (fun k hk => by obtain rfl := Option.some.inj hk; exact hsz.out))
            have HO2 := Lib.hid O2
            clear hv2 hg2 h2 O2
            go_wp2_with fail
            go_roundw
            case rel => exact ⟨digB m :: L, _, g2, c2, rfl, rfl, hrm, by omega, by omega, N1, HO2, HB2⟩
            case measure => simp [intOf, lenV]; omega
        · obtain ⟨m, rfl⟩ : ∃ m : Nat, r = m := ⟨r.toNat, by omega⟩
          have hm : (m : Int) ≤ 9223372036854775807 := hr1
          have hm0 : 1 ≤ (m : Int) := by omega
          have hne : ((m : Int) == 0) = false := by simp; omega
          have N1 : Hid (DecSt n (digB m :: L) ((m : Int) / 10)) := hS.out.next (.inr hn) (by omega) (by omega)
          clear hn hneg hr0 hr1
          go_wp2_with (at_builtin; refine wpList_append_own _ rfl _ _ 104 rfl G 5 i0 (.int .u8 0) 1 1 Tryd.underlying104 HI.out.1 HI.out.2.1 HI.out.2.2.1 HI.out.2.2.2 rfl (by decide) _ _ (bytesV [digB m]) rfl (own_lit1 hsz.out (digB_val m).symm) ⟨g, 0, none⟩ L.length c (bytesV L) rfl (by simp [bytesV]) (World.ownsRow.cells (World.ownsRow.alloc hO.out _) rfl) (bytesV_one L) (by unfold maxLen; omega) (by omega) (by simp; exact Nat.le_succ_of_le hsz.out) ?_)
          · intro v' w2 h2 hg2 hv2
            obtain ⟨g2, c2, rfl, O2⟩ := OwnB.of (L := digB m :: L) h2 (by simp; omega) hv2
            have HB2 := Lib.hid ((hB.out.alloc hsz.out _).grown hg2 (by simp; exact Nat.le_succ_of_le hsz.out) (fun k hk => by obtain rfl := Option.some.inj hk; exact hsz.out))
            have HO2 := Lib.hid O2
            clear hv2 hg2 h2 O2
            go_wp2_with fail
            go_roundw
            case rel => exact ⟨digB m :: L, _, g2, c2, rfl, rfl, hrm, by omega, by omega, N1, HO2, HB2⟩
            case measure => simp [intOf, lenV]; omega

end Go.Proofs.YtegbclfjcckglaaDoor
