/-
  What is proved here: UnpackCells, of both packages, as walks. Conditions: a text of at most 1048576 bytes.
-/
import Derived.Test.YtjojhklbikgfoaaRpb
import Derived.Test.YtjojhklbikgfoaaGrb
import Derived.Test.YtjojhklbikgfoaaFpn
import Derived.Test.YtjojhklbikgfoaaFdr
namespace Go.Proofs.Ytjojhklbikgfoaa
open Go.RowKit
set_option linter.unusedVariables false

/-- a byte of a text -/
def rdU (s : ByteArray) (t : Nat) : Nat := if h : t < s.size then (s[t]'h).toNat else 0
theorem rdU_at {s : ByteArray} {t : Nat} (h : t < s.size) : rdU s t = (s[t]'h).toNat := dif_pos h
theorem rdU_lt (s : ByteArray) (t : Nat) : rdU s t ≤ 255 := by
  unfold rdU
  split
  · rename_i h; have := (s[t]'h).toNat_lt; omega
  · omega
/-- how long a run is, and of how many bytes -/
def runU (s : ByteArray) (t : Nat) : Nat := if rdU s t = 255 ∧ t + 1 < s.size then 255 + rdU s (t + 1) else rdU s t
def advU (s : ByteArray) (t : Nat) : Nat := if rdU s t = 255 ∧ t + 1 < s.size then 2 else 1
def unpU (s : ByteArray) : Nat → Nat → Bool → List Bool → List Bool
  | 0, _, _, L => L
  | m + 1, t, f, L => if t < s.size ∧ L.length ≤ 256 then unpU s m (t + advU s t) (!f) (L ++ List.replicate (runU s t) f) else L
theorem unpU_go {s : ByteArray} {m t : Nat} {f : Bool} {L : List Bool} (h1 : t < s.size) (h2 : L.length ≤ 256) : unpU s (m + 1) t f L = unpU s m (t + advU s t) (!f) (L ++ List.replicate (runU s t) f) := if_pos ⟨h1, h2⟩
theorem unpU_stop {s : ByteArray} {t : Nat} {f : Bool} {L : List Bool} (h : ¬ (t < s.size ∧ L.length ≤ 256)) : ∀ m, unpU s m t f L = L
  | 0 => rfl
  | m + 1 => if_neg h
def unpL (s : ByteArray) : List Bool := unpU s s.size 0 false []
def okU (s : ByteArray) : Bool := decide ((unpL s).length ≤ 256) && ((packU (atB (unpL s)) (unpL s).length) == s.data.toList)
theorem text_eqU {l : List UInt8} {s : ByteArray} (h : (l == s.data.toList) = true) : (⟨l.toArray⟩ : ByteArray) = s := by
  have := eq_of_beq h
  subst this
  rfl
theorem text_neU {l : List UInt8} {s : ByteArray} (h : (l == s.data.toList) = false) : ((⟨l.toArray⟩ : ByteArray).toList == s.toList) = false := by
  rw [beq_eq_false_iff_ne, Go.ByteArray.toList_eq, Go.ByteArray.toList_eq]
  exact beq_eq_false_iff_ne.1 h
/-- an append of a row of bools, maybe of none, as a step of a walk -/
theorem wpGroBL {ops : Array Oper} {rest : List Oper} {o : Oper} {a : Act} {Q : Exit → Act → World → Prop} (hgd : o.guard = none) (s x : Operand)
    (ho : o.op = .call { callee := .builtin .append, args := #[s, x], argTypes := #[22, 22] })
    {w : World} {G c g m : Nat} {f : Bool} {L : List Bool} {A : Option Addr} (hO : GroB w G L A c) (hM : RowM w g m (fun _ => .bool f)) (hs : a.eval s = .slice A L.length c) (hx : a.eval x = .slice (some ⟨g, 0, none⟩) m m) (hL : L.length + m ≤ 1048576) (hG : G ≤ w.heap.size)
    (h : ∀ A' c' w', GroB w' G (L ++ List.replicate m f) A' c' → Below G w w' → wpList Try.prog ops Q rest (a.put o.dst (.slice A' (L ++ List.replicate m f).length c')) w') :
    wpList Try.prog ops Q (o :: rest) a w := by
  obtain ⟨i0, hi, hz0, hz1, hz2⟩ := info_parts info_bool
  refine wpList_append_own w hgd s x 22 ho G 4 i0 (.bool false) 1 1 Try.underlying22 hi hz0 hz1 hz2 rfl (by decide) _ L.length (L.map (Value.bool)) hs hO ⟨g, 0, none⟩ m m ((List.replicate m f).map Value.bool) hx (by simp) (fun j u hu => ?_) (by intro u hu; obtain ⟨z, _, rfl⟩ := List.mem_map.1 hu; rfl) (by unfold maxLen; omega) (by omega) hG ?_
  · rw [List.getElem?_map, List.getElem?_replicate] at hu
    by_cases hj : j < m
    · rw [if_pos hj] at hu
      simp only [Option.map_some, Option.some.injEq] at hu
      subst hu
      rw [Go.WideShapes.add_plain, Nat.zero_add]
      exact hM.cell j hj
    · rw [if_neg hj] at hu; cases hu
  · intro v' w' h1 h2 _
    rw [← List.map_append] at h1
    have e : L.length + m = (L ++ List.replicate m f).length := by rw [List.length_append, List.length_replicate]
    rw [e] at h1
    have hb : Below G w w' := by
      refine grownAtB (Below.refl _ _) h2 hG ?_
      rcases hO.cases with ⟨rfl, rfl, rfl⟩ | ⟨g1, rfl⟩
      · intro k hk; cases hk
      · intro k hk
        injection hk with hk
        have := (hO.lt _ rfl).1
        have e : k = g1 := hk.symm
        omega
    rcases h1.2 with ⟨h3, h4⟩ | ⟨g1, cap, cur, h3, r⟩
    · have e0 : (L ++ List.replicate m f).length = 0 := h4
      subst h3
      have hO' : GroB w' G (L ++ List.replicate m f) none 0 := by unfold GroB; rw [e0]; rw [e0] at h1; exact h1
      have := h none 0 w' hO' hb
      rw [e0] at this
      exact this
    · subst h3
      exact h (some ⟨g1, 0, none⟩) cap w' h1 hb

theorem GroB.cap {w : World} {G c : Nat} {L : List Bool} {A : Option Addr} (h : GroB w G L A c) : L.length ≤ c := by
  rcases h.2 with ⟨h1, _⟩ | ⟨g, cap, cur, h0, hbg, hg, hnc, _⟩
  · injection h1 with e1 e2 e3
    omega
  · injection h0 with e1 e2 e3
    omega

set_option maxHeartbeats 16000000 in
set_option maxRecDepth 100000 in
theorem specUnYes (s : ByteArray) (hs : s.size ≤ 1048576) (w : World) (hk : okU s = true) :
    Calls Try.prog 64 #[.string s] w fun e w' => ∃ A c, e = .returned (.tuple #[.slice A (unpL s).length c, .bool true]) ∧ Hid (RowW w' w.heap.size w'.heap.size A (unpL s).length (bo (atB (unpL s)))) ∧ Hid (Below w.heap.size w w') := by
  have hR : Hid (unpU s s.size 0 false [] = unpL s) := by show _ = _; rfl
  unfold okU at hk
  generalize unpL s = R at *
  have HK := Lib.hid hk
  clear hk
  have H0 : Hid (GroB (w.alloc (.cells #[] 4)) w.heap.size [] (some ⟨w.heap.size, 0, none⟩) 0) := GroB.lit w (Nat.le_refl _)
  have HB0 : Hid (Below w.heap.size w (w.alloc (.cells #[] 4))) := (Below.refl _ _).alloc (Nat.le_refl _) _
  go_enter Try.func64, Try.ntmps64
  go_wp2_with fail
  generalize w.alloc (.cells #[] 4) = b at *
  go_loopw [4, 5, 6] (fun o fu at' wr => ∃ (m t : Nat) (f : Bool) (L : List Bool) (A : Option Addr) (c : Nat), t ≤ s.size ∧ s.size ≤ t + m ∧ L.length ≤ 766 ∧ o = .slice A L.length c ∧ fu = .bool f ∧ at' = .int .i64 (t : Nat) ∧ Hid (unpU s m t f L = R) ∧ Hid (GroB wr w.heap.size L A c) ∧ Hid (Below w.heap.size w wr)) (fun _ _ at' _ => s.size - (intOf at').toNat)
  case atStart => exact ⟨s.size, 0, false, [], _, 0, Nat.zero_le _, by omega, Nat.zero_le _, rfl, rfl, rfl, hR, H0, HB0⟩
  case round =>
    clear H0 HB0 hR
    obtain ⟨m, t, f, L, A, c, ht, hm, hL, rfl, rfl, rfl, hW0, hO, hB⟩ := hrel
    by_cases hc : t < s.size ∧ L.length ≤ 256
    · obtain ⟨h1, h2⟩ := hc
      obtain ⟨u, rfl⟩ : ∃ u, m = u + 1 := ⟨m - 1, by omega⟩
      have hW0 := hW0.out
      rw [unpU_go h1 h2] at hW0
      have h1i : (t : Int) < s.size := by omega
      have h2i : (L.length : Int) ≤ 256 := by omega
      by_cases hq : (s[t]'h1).toNat = 255
      · by_cases h3 : t + 1 < s.size
        · have hq2 := And.intro hq h3
          clear h3
          obtain ⟨hq, h3⟩ := hq2
          obtain ⟨q, hqe⟩ : ∃ q, (s[t + 1]'h3).toNat = q := ⟨_, rfl⟩
          have hrun : runU s t = 255 + q := by unfold runU; rw [rdU_at h1, if_pos ⟨hq, h3⟩, rdU_at h3, hqe]
          have hadv : advU s t = 2 := by unfold advU; rw [rdU_at h1, if_pos ⟨hq, h3⟩]
          have hqb : q ≤ 255 := by have := rdU_lt s (t + 1); rw [rdU_at h3, hqe] at this; exact this
          have h3i : ((t : Int) + 1) < s.size := by omega
          obtain ⟨r, hr⟩ : ∃ r, r = 255 + q := ⟨_, rfl⟩
          have hrI : (255 : Int) + (q : Int) = (r : Int) := by omega
          have hrb : r ≤ 510 := by omega
          have hW := hW0
          rw [hrun, hadv, ← hr] at hW
          have HW := Lib.hid hW
          have HRI := Lib.hid hrI
          clear hW hW0 hrun hadv hrI hr
          go_wp2_with fail
          go_loopw [4, 7] (fun o n wi => ∃ (j i : Nat) (M : List Bool) (A' : Option Addr) (c' : Nat), j + i = r ∧ n = .int .i64 (j : Nat) ∧ o = .slice A' M.length c' ∧ Hid (M = L ++ List.replicate i f) ∧ Hid (GroB wi w.heap.size M A' c') ∧ Hid (Below w.heap.size w wi)) (fun _ n _ => (intOf n).toNat)
          case atStart => exact ⟨r, 0, L, A, c, rfl, by first | rfl | (rw [HRI.out]) | (exact congrArg _ HRI.out), rfl, (List.append_nil L).symm, hO, hB⟩
          case round =>
            obtain ⟨j, i, M, A', c', hji, rfl, rfl, hM, hO, hB⟩ := hrel
            have hsz : Hid (w.heap.size ≤ wr.heap.size) := hB.out.size
            have hml : M.length ≤ 766 := by rw [hM.out, List.length_append, List.length_replicate]; omega
            cases j with
            | succ j =>
              have HM2 : Hid (M ++ [f] = L ++ List.replicate (i + 1) f) := by show _ = _; rw [hM.out, List.append_assoc, List.replicate_succ']
              go_wp2_with (at_builtin; refine wpGroB rfl _ _ rfl (w0 := wr) (y := f) hO.out rfl rfl rfl (by omega) hsz.out ?_; intro g2 c3 w4 O4 B4; have HO4 := Lib.hid O4; have HB4 := Lib.hid (hB.out.trans B4); clear O4 B4)
              go_roundw
              case rel => exact ⟨j, i + 1, M ++ [f], some ⟨g2, 0, none⟩, c3, by omega, by go_num, by rw [List.length_append]; rfl, HM2, HO4, HB4⟩
              case measure => simp [intOf]
            | zero =>
              obtain rfl : i = r := by omega
              have HW2 := HW.out
              rw [← hM.out] at HW2
              have HW3 := Lib.hid HW2
              clear HW2
              go_wp2_with fail
              go_roundw
              case rel => exact ⟨u, t + 2, !f, M, A', c', by omega, by omega, by omega, rfl, rfl, by first | rfl | go_num | (congr 1; omega), HW3, hO, hB⟩
              case measure => simp [intOf]; omega
        · have hq2 := And.intro hq h3
          clear h3
          obtain ⟨hq, h3⟩ := hq2
          have hrun : runU s t = 255 := by unfold runU; rw [rdU_at h1, if_neg (fun h => h3 h.2), hq]
          have hadv : advU s t = 1 := by unfold advU; rw [rdU_at h1, if_neg (fun h => h3 h.2)]
          have h3i : ¬ ((t : Int) + 1) < s.size := by omega
          obtain ⟨r, hr⟩ : ∃ r, r = 255 := ⟨_, rfl⟩
          have hrI : (255 : Int) = (r : Int) := by omega
          have hrb : r ≤ 510 := by omega
          have hW := hW0
          rw [hrun, hadv, ← hr] at hW
          have HW := Lib.hid hW
          have HRI := Lib.hid hrI
          clear hW hW0 hrun hadv hrI hr
          go_wp2_with fail
          go_loopw [4, 7] (fun o n wi => ∃ (j i : Nat) (M : List Bool) (A' : Option Addr) (c' : Nat), j + i = r ∧ n = .int .i64 (j : Nat) ∧ o = .slice A' M.length c' ∧ Hid (M = L ++ List.replicate i f) ∧ Hid (GroB wi w.heap.size M A' c') ∧ Hid (Below w.heap.size w wi)) (fun _ n _ => (intOf n).toNat)
          case atStart => exact ⟨r, 0, L, A, c, rfl, by first | rfl | (rw [HRI.out]) | (exact congrArg _ HRI.out), rfl, (List.append_nil L).symm, hO, hB⟩
          case round =>
            obtain ⟨j, i, M, A', c', hji, rfl, rfl, hM, hO, hB⟩ := hrel
            have hsz : Hid (w.heap.size ≤ wr.heap.size) := hB.out.size
            have hml : M.length ≤ 766 := by rw [hM.out, List.length_append, List.length_replicate]; omega
            cases j with
            | succ j =>
              have HM2 : Hid (M ++ [f] = L ++ List.replicate (i + 1) f) := by show _ = _; rw [hM.out, List.append_assoc, List.replicate_succ']
              go_wp2_with (at_builtin; refine wpGroB rfl _ _ rfl (w0 := wr) (y := f) hO.out rfl rfl rfl (by omega) hsz.out ?_; intro g2 c3 w4 O4 B4; have HO4 := Lib.hid O4; have HB4 := Lib.hid (hB.out.trans B4); clear O4 B4)
              go_roundw
              case rel => exact ⟨j, i + 1, M ++ [f], some ⟨g2, 0, none⟩, c3, by omega, by go_num, by rw [List.length_append]; rfl, HM2, HO4, HB4⟩
              case measure => simp [intOf]
            | zero =>
              obtain rfl : i = r := by omega
              have HW2 := HW.out
              rw [← hM.out] at HW2
              have HW3 := Lib.hid HW2
              clear HW2
              go_wp2_with fail
              go_roundw
              case rel => exact ⟨u, t + 1, !f, M, A', c', by omega, by omega, by omega, rfl, rfl, by first | rfl | go_num | (congr 1; omega), HW3, hO, hB⟩
              case measure => simp [intOf]; omega
      · have hq2 := hq
        clear hq
        obtain ⟨q, hqe⟩ : ∃ q, (s[t]'h1).toNat = q := ⟨_, rfl⟩
        rw [hqe] at hq2
        have hrun : runU s t = q := by unfold runU; rw [rdU_at h1, hqe, if_neg (fun h => hq2 h.1)]
        have hadv : advU s t = 1 := by unfold advU; rw [rdU_at h1, hqe, if_neg (fun h => hq2 h.1)]
        have hqb : q ≤ 255 := by have := rdU_lt s t; rw [rdU_at h1, hqe] at this; exact this
        have hqi : ((q : Int) == 255) = false := by rw [beq_eq_false_iff_ne]; omega
        obtain ⟨r, hr⟩ : ∃ r, r = q := ⟨_, rfl⟩
        have hrI : (q : Int) = (r : Int) := by omega
        have hrb : r ≤ 510 := by omega
        have hW := hW0
        rw [hrun, hadv, ← hr] at hW
        have HW := Lib.hid hW
        have HRI := Lib.hid hrI
        clear hW hW0 hrun hadv hrI hr
        go_wp2_with fail
        go_loopw [4, 7] (fun o n wi => ∃ (j i : Nat) (M : List Bool) (A' : Option Addr) (c' : Nat), j + i = r ∧ n = .int .i64 (j : Nat) ∧ o = .slice A' M.length c' ∧ Hid (M = L ++ List.replicate i f) ∧ Hid (GroB wi w.heap.size M A' c') ∧ Hid (Below w.heap.size w wi)) (fun _ n _ => (intOf n).toNat)
        case atStart => exact ⟨r, 0, L, A, c, rfl, by first | rfl | (rw [HRI.out]) | (exact congrArg _ HRI.out), rfl, (List.append_nil L).symm, hO, hB⟩
        case round =>
          obtain ⟨j, i, M, A', c', hji, rfl, rfl, hM, hO, hB⟩ := hrel
          have hsz : Hid (w.heap.size ≤ wr.heap.size) := hB.out.size
          have hml : M.length ≤ 766 := by rw [hM.out, List.length_append, List.length_replicate]; omega
          cases j with
          | succ j =>
            have HM2 : Hid (M ++ [f] = L ++ List.replicate (i + 1) f) := by show _ = _; rw [hM.out, List.append_assoc, List.replicate_succ']
            go_wp2_with (at_builtin; refine wpGroB rfl _ _ rfl (w0 := wr) (y := f) hO.out rfl rfl rfl (by omega) hsz.out ?_; intro g2 c3 w4 O4 B4; have HO4 := Lib.hid O4; have HB4 := Lib.hid (hB.out.trans B4); clear O4 B4)
            go_roundw
            case rel => exact ⟨j, i + 1, M ++ [f], some ⟨g2, 0, none⟩, c3, by omega, by go_num, by rw [List.length_append]; rfl, HM2, HO4, HB4⟩
            case measure => simp [intOf]
          | zero =>
            obtain rfl : i = r := by omega
            have HW2 := HW.out
            rw [← hM.out] at HW2
            have HW3 := Lib.hid HW2
            clear HW2
            go_wp2_with fail
            go_roundw
            case rel => exact ⟨u, t + 1, !f, M, A', c', by omega, by omega, by omega, rfl, rfl, by first | rfl | go_num | (congr 1; omega), HW3, hO, hB⟩
            case measure => simp [intOf]; omega
    · have hE : L = R := (unpU_stop hc m).symm.trans hW0.out
      subst hE
      by_cases h1 : t < s.size
      · have h2 : 256 < L.length := by omega
        have h1i : (t : Int) < s.size := by omega
        clear hW0 hc hm
        exfalso
        have := of_decide_eq_true (Bool.and_eq_true _ _ ▸ HK.out).1
        omega
      · have h1i : ¬ (t : Int) < s.size := by omega
        clear hW0 hc hm
        obtain ⟨hk1, hk2⟩ := Bool.and_eq_true _ _ ▸ HK.out
        have hl := of_decide_eq_true hk1
        have HP := Lib.hid (fun W h => specPak A L.length c (atB L) W h hl)
        rw [text_eqU hk2] at HP
        clear hk1 hk2 HK
        go_wp2_with fail
        refine (HP.out wr hO.out.rowW.toRow).mono ?_
        rintro e w2 ⟨rfl, hb2⟩
        have HR2 := Lib.hid ((hO.out.below hb2.out).rowW)
        have HB2 := Lib.hid (hB.out.trans (hb2.out.mono hB.out.size))
        clear hb2 HP hO hB
        go_wp2_with fail
        go_ret2
        first | exact ⟨A, c, rfl, HR2, HB2⟩ | exact ⟨A, ⟨c, rfl⟩, HR2, HB2⟩

set_option maxHeartbeats 16000000 in
set_option maxRecDepth 100000 in
theorem specUnNo (s : ByteArray) (hs : s.size ≤ 1048576) (w : World) (hk : okU s = false) :
    Calls Try.prog 64 #[.string s] w fun e w' => ∃ A c, e = .returned (.tuple #[.slice A 0 c, .bool false]) ∧ Hid (RowW w' w.heap.size w'.heap.size A 0 (bo (fun _ => false))) ∧ Hid (Below w.heap.size w w') := by
  have hR : Hid (unpU s s.size 0 false [] = unpL s) := by show _ = _; rfl
  unfold okU at hk
  generalize unpL s = R at *
  have HK := Lib.hid hk
  clear hk
  have H0 : Hid (GroB (w.alloc (.cells #[] 4)) w.heap.size [] (some ⟨w.heap.size, 0, none⟩) 0) := GroB.lit w (Nat.le_refl _)
  have HB0 : Hid (Below w.heap.size w (w.alloc (.cells #[] 4))) := (Below.refl _ _).alloc (Nat.le_refl _) _
  go_enter Try.func64, Try.ntmps64
  go_wp2_with fail
  generalize w.alloc (.cells #[] 4) = b at *
  go_loopw [4, 5, 6] (fun o fu at' wr => ∃ (m t : Nat) (f : Bool) (L : List Bool) (A : Option Addr) (c : Nat), t ≤ s.size ∧ s.size ≤ t + m ∧ L.length ≤ 766 ∧ o = .slice A L.length c ∧ fu = .bool f ∧ at' = .int .i64 (t : Nat) ∧ Hid (unpU s m t f L = R) ∧ Hid (GroB wr w.heap.size L A c) ∧ Hid (Below w.heap.size w wr)) (fun _ _ at' _ => s.size - (intOf at').toNat)
  case atStart => exact ⟨s.size, 0, false, [], _, 0, Nat.zero_le _, by omega, Nat.zero_le _, rfl, rfl, rfl, hR, H0, HB0⟩
  case round =>
    clear H0 HB0 hR
    obtain ⟨m, t, f, L, A, c, ht, hm, hL, rfl, rfl, rfl, hW0, hO, hB⟩ := hrel
    by_cases hc : t < s.size ∧ L.length ≤ 256
    · obtain ⟨h1, h2⟩ := hc
      obtain ⟨u, rfl⟩ : ∃ u, m = u + 1 := ⟨m - 1, by omega⟩
      have hW0 := hW0.out
      rw [unpU_go h1 h2] at hW0
      have h1i : (t : Int) < s.size := by omega
      have h2i : (L.length : Int) ≤ 256 := by omega
      by_cases hq : (s[t]'h1).toNat = 255
      · by_cases h3 : t + 1 < s.size
        · have hq2 := And.intro hq h3
          clear h3
          obtain ⟨hq, h3⟩ := hq2
          obtain ⟨q, hqe⟩ : ∃ q, (s[t + 1]'h3).toNat = q := ⟨_, rfl⟩
          have hrun : runU s t = 255 + q := by unfold runU; rw [rdU_at h1, if_pos ⟨hq, h3⟩, rdU_at h3, hqe]
          have hadv : advU s t = 2 := by unfold advU; rw [rdU_at h1, if_pos ⟨hq, h3⟩]
          have hqb : q ≤ 255 := by have := rdU_lt s (t + 1); rw [rdU_at h3, hqe] at this; exact this
          have h3i : ((t : Int) + 1) < s.size := by omega
          obtain ⟨r, hr⟩ : ∃ r, r = 255 + q := ⟨_, rfl⟩
          have hrI : (255 : Int) + (q : Int) = (r : Int) := by omega
          have hrb : r ≤ 510 := by omega
          have hW := hW0
          rw [hrun, hadv, ← hr] at hW
          have HW := Lib.hid hW
          have HRI := Lib.hid hrI
          clear hW hW0 hrun hadv hrI hr
          go_wp2_with fail
          go_loopw [4, 7] (fun o n wi => ∃ (j i : Nat) (M : List Bool) (A' : Option Addr) (c' : Nat), j + i = r ∧ n = .int .i64 (j : Nat) ∧ o = .slice A' M.length c' ∧ Hid (M = L ++ List.replicate i f) ∧ Hid (GroB wi w.heap.size M A' c') ∧ Hid (Below w.heap.size w wi)) (fun _ n _ => (intOf n).toNat)
          case atStart => exact ⟨r, 0, L, A, c, rfl, by first | rfl | (rw [HRI.out]) | (exact congrArg _ HRI.out), rfl, (List.append_nil L).symm, hO, hB⟩
          case round =>
            obtain ⟨j, i, M, A', c', hji, rfl, rfl, hM, hO, hB⟩ := hrel
            have hsz : Hid (w.heap.size ≤ wr.heap.size) := hB.out.size
            have hml : M.length ≤ 766 := by rw [hM.out, List.length_append, List.length_replicate]; omega
            cases j with
            | succ j =>
              have HM2 : Hid (M ++ [f] = L ++ List.replicate (i + 1) f) := by show _ = _; rw [hM.out, List.append_assoc, List.replicate_succ']
              go_wp2_with (at_builtin; refine wpGroB rfl _ _ rfl (w0 := wr) (y := f) hO.out rfl rfl rfl (by omega) hsz.out ?_; intro g2 c3 w4 O4 B4; have HO4 := Lib.hid O4; have HB4 := Lib.hid (hB.out.trans B4); clear O4 B4)
              go_roundw
              case rel => exact ⟨j, i + 1, M ++ [f], some ⟨g2, 0, none⟩, c3, by omega, by go_num, by rw [List.length_append]; rfl, HM2, HO4, HB4⟩
              case measure => simp [intOf]
            | zero =>
              obtain rfl : i = r := by omega
              have HW2 := HW.out
              rw [← hM.out] at HW2
              have HW3 := Lib.hid HW2
              clear HW2
              go_wp2_with fail
              go_roundw
              case rel => exact ⟨u, t + 2, !f, M, A', c', by omega, by omega, by omega, rfl, rfl, by first | rfl | go_num | (congr 1; omega), HW3, hO, hB⟩
              case measure => simp [intOf]; omega
        · have hq2 := And.intro hq h3
          clear h3
          obtain ⟨hq, h3⟩ := hq2
          have hrun : runU s t = 255 := by unfold runU; rw [rdU_at h1, if_neg (fun h => h3 h.2), hq]
          have hadv : advU s t = 1 := by unfold advU; rw [rdU_at h1, if_neg (fun h => h3 h.2)]
          have h3i : ¬ ((t : Int) + 1) < s.size := by omega
          obtain ⟨r, hr⟩ : ∃ r, r = 255 := ⟨_, rfl⟩
          have hrI : (255 : Int) = (r : Int) := by omega
          have hrb : r ≤ 510 := by omega
          have hW := hW0
          rw [hrun, hadv, ← hr] at hW
          have HW := Lib.hid hW
          have HRI := Lib.hid hrI
          clear hW hW0 hrun hadv hrI hr
          go_wp2_with fail
          go_loopw [4, 7] (fun o n wi => ∃ (j i : Nat) (M : List Bool) (A' : Option Addr) (c' : Nat), j + i = r ∧ n = .int .i64 (j : Nat) ∧ o = .slice A' M.length c' ∧ Hid (M = L ++ List.replicate i f) ∧ Hid (GroB wi w.heap.size M A' c') ∧ Hid (Below w.heap.size w wi)) (fun _ n _ => (intOf n).toNat)
          case atStart => exact ⟨r, 0, L, A, c, rfl, by first | rfl | (rw [HRI.out]) | (exact congrArg _ HRI.out), rfl, (List.append_nil L).symm, hO, hB⟩
          case round =>
            obtain ⟨j, i, M, A', c', hji, rfl, rfl, hM, hO, hB⟩ := hrel
            have hsz : Hid (w.heap.size ≤ wr.heap.size) := hB.out.size
            have hml : M.length ≤ 766 := by rw [hM.out, List.length_append, List.length_replicate]; omega
            cases j with
            | succ j =>
              have HM2 : Hid (M ++ [f] = L ++ List.replicate (i + 1) f) := by show _ = _; rw [hM.out, List.append_assoc, List.replicate_succ']
              go_wp2_with (at_builtin; refine wpGroB rfl _ _ rfl (w0 := wr) (y := f) hO.out rfl rfl rfl (by omega) hsz.out ?_; intro g2 c3 w4 O4 B4; have HO4 := Lib.hid O4; have HB4 := Lib.hid (hB.out.trans B4); clear O4 B4)
              go_roundw
              case rel => exact ⟨j, i + 1, M ++ [f], some ⟨g2, 0, none⟩, c3, by omega, by go_num, by rw [List.length_append]; rfl, HM2, HO4, HB4⟩
              case measure => simp [intOf]
            | zero =>
              obtain rfl : i = r := by omega
              have HW2 := HW.out
              rw [← hM.out] at HW2
              have HW3 := Lib.hid HW2
              clear HW2
              go_wp2_with fail
              go_roundw
              case rel => exact ⟨u, t + 1, !f, M, A', c', by omega, by omega, by omega, rfl, rfl, by first | rfl | go_num | (congr 1; omega), HW3, hO, hB⟩
              case measure => simp [intOf]; omega
      · have hq2 := hq
        clear hq
        obtain ⟨q, hqe⟩ : ∃ q, (s[t]'h1).toNat = q := ⟨_, rfl⟩
        rw [hqe] at hq2
        have hrun : runU s t = q := by unfold runU; rw [rdU_at h1, hqe, if_neg (fun h => hq2 h.1)]
        have hadv : advU s t = 1 := by unfold advU; rw [rdU_at h1, hqe, if_neg (fun h => hq2 h.1)]
        have hqb : q ≤ 255 := by have := rdU_lt s t; rw [rdU_at h1, hqe] at this; exact this
        have hqi : ((q : Int) == 255) = false := by rw [beq_eq_false_iff_ne]; omega
        obtain ⟨r, hr⟩ : ∃ r, r = q := ⟨_, rfl⟩
        have hrI : (q : Int) = (r : Int) := by omega
        have hrb : r ≤ 510 := by omega
        have hW := hW0
        rw [hrun, hadv, ← hr] at hW
        have HW := Lib.hid hW
        have HRI := Lib.hid hrI
        clear hW hW0 hrun hadv hrI hr
        go_wp2_with fail
        go_loopw [4, 7] (fun o n wi => ∃ (j i : Nat) (M : List Bool) (A' : Option Addr) (c' : Nat), j + i = r ∧ n = .int .i64 (j : Nat) ∧ o = .slice A' M.length c' ∧ Hid (M = L ++ List.replicate i f) ∧ Hid (GroB wi w.heap.size M A' c') ∧ Hid (Below w.heap.size w wi)) (fun _ n _ => (intOf n).toNat)
        case atStart => exact ⟨r, 0, L, A, c, rfl, by first | rfl | (rw [HRI.out]) | (exact congrArg _ HRI.out), rfl, (List.append_nil L).symm, hO, hB⟩
        case round =>
          obtain ⟨j, i, M, A', c', hji, rfl, rfl, hM, hO, hB⟩ := hrel
          have hsz : Hid (w.heap.size ≤ wr.heap.size) := hB.out.size
          have hml : M.length ≤ 766 := by rw [hM.out, List.length_append, List.length_replicate]; omega
          cases j with
          | succ j =>
            have HM2 : Hid (M ++ [f] = L ++ List.replicate (i + 1) f) := by show _ = _; rw [hM.out, List.append_assoc, List.replicate_succ']
            go_wp2_with (at_builtin; refine wpGroB rfl _ _ rfl (w0 := wr) (y := f) hO.out rfl rfl rfl (by omega) hsz.out ?_; intro g2 c3 w4 O4 B4; have HO4 := Lib.hid O4; have HB4 := Lib.hid (hB.out.trans B4); clear O4 B4)
            go_roundw
            case rel => exact ⟨j, i + 1, M ++ [f], some ⟨g2, 0, none⟩, c3, by omega, by go_num, by rw [List.length_append]; rfl, HM2, HO4, HB4⟩
            case measure => simp [intOf]
          | zero =>
            obtain rfl : i = r := by omega
            have HW2 := HW.out
            rw [← hM.out] at HW2
            have HW3 := Lib.hid HW2
            clear HW2
            go_wp2_with fail
            go_roundw
            case rel => exact ⟨u, t + 1, !f, M, A', c', by omega, by omega, by omega, rfl, rfl, by first | rfl | go_num | (congr 1; omega), HW3, hO, hB⟩
            case measure => simp [intOf]; omega
    · have hE : L = R := (unpU_stop hc m).symm.trans hW0.out
      subst hE
      by_cases h1 : t < s.size
      · have h2 : 256 < L.length := by omega
        have h1i : (t : Int) < s.size := by omega
        clear hW0 hc hm
        have hl2 : 256 < L.length := h2
        go_wp2_with fail
        go_ret2
        first | exact ⟨none, 0, rfl, RowW.empty (Nat.le_refl _), hB⟩ | exact ⟨none, ⟨0, rfl⟩, RowW.empty (Nat.le_refl _), hB⟩
      · have h1i : ¬ (t : Int) < s.size := by omega
        clear hW0 hc hm
        by_cases hl : L.length ≤ 256
        · have hk2 : ((packU (atB L) L.length) == s.data.toList) = false := by
            have := HK.out
            rw [decide_eq_true hl, Bool.true_and] at this
            exact this
          have HP := Lib.hid (fun W h => specPak A L.length c (atB L) W h hl)
          have hne := text_neU hk2
          clear hk2 HK
          generalize (⟨(packU (atB L) L.length).toArray⟩ : ByteArray) = X at *
          go_wp2_with fail
          refine (HP.out wr hO.out.rowW.toRow).mono ?_
          rintro e w2 ⟨rfl, hb2⟩
          have HB2 := Lib.hid (hB.out.trans (hb2.out.mono hB.out.size))
          clear hb2 HP hO hB
          go_wp2_with fail
          go_ret2
          first | exact ⟨none, 0, rfl, RowW.empty (Nat.le_refl _), HB2⟩ | exact ⟨none, ⟨0, rfl⟩, RowW.empty (Nat.le_refl _), HB2⟩
        · have hl2 : 256 < L.length := by omega
          go_wp2_with fail
          go_ret2
          first | exact ⟨none, 0, rfl, RowW.empty (Nat.le_refl _), hB⟩ | exact ⟨none, ⟨0, rfl⟩, RowW.empty (Nat.le_refl _), hB⟩

end Go.Proofs.Ytjojhklbikgfoaa
