/-
  What is proved here: the lines of a text and RecoverJournal of the model, as walks. Conditions: the text has at most 1048576 bytes.
-/
import Derived.Test.YtegbclfjcckglaaDoorRji
import Derived.Test.YtegbclfjcckglaaDoorStk
import Derived.Deep.QuietTactic
import Derived.Deep.RegionHeld3
namespace Go.Proofs.YtegbclfjcckglaaDoor
open Go.RowKit

theorem part_sizeJ {d : UInt8} {s t : ByteArray} (h : t ∈ cutBd d s) : t.size ≤ s.size := by
  have key : ∀ (l p : List UInt8), p ∈ cutD d l → p.length ≤ l.length := by
    intro l
    induction l with
    | nil => intro p hp; rw [show cutD d [] = [[]] from rfl] at hp; rw [List.mem_singleton.1 hp]; simp
    | cons c r ih =>
      intro p hp
      by_cases hc : c = d
      · subst hc
        rw [cutD_comma] at hp
        rcases List.mem_cons.1 hp with rfl | hp
        · simp
        · have := ih p hp; simp; omega
      · obtain ⟨q, qs, e⟩ := cutD_cons d r
        rw [cutD_other hc e] at hp
        rcases List.mem_cons.1 hp with rfl | hp
        · have := ih q (by rw [e]; simp); simp; omega
        · have := ih p (by rw [e]; simp [hp]); simp; omega
  unfold cutBd at h
  obtain ⟨p, hp, rfl⟩ := List.mem_map.1 h
  have := key _ p hp
  rw [size_list] at this
  show p.toArray.size ≤ _
  simp; omega
theorem cutBd_len (d : UInt8) (s : ByteArray) : (cutBd d s).length ≤ s.size + 1 := by
  have := cutD_len d s.data.toList
  rw [size_list] at this
  unfold cutBd
  rwa [List.length_map]

/-- the lines of a text, and what is behind them -/
theorem specLines (s : ByteArray) (hs : s.size ≤ 1048576) (m : Nat) (hm : (cutBd 10 s).length = m + 1) (w : World) :
    Calls Tryd.prog 70 #[.string s] w fun e w' => ∃ g c, e = .returned (.tuple #[.slice (some ⟨g, 0, none⟩) m c, .string ((cutBd 10 s).getD m ⟨#[]⟩)]) ∧ (∀ j x, (cutBd 10 s)[j]? = some x → w'.cell? ⟨g, j, none⟩ = some (.string x)) ∧ g < w'.heap.size ∧ Hid (Below w.heap.size w w') := by
  have HC : Hid (∀ W, Calls Tryd.prog 95 #[.string s, .int .u8 10] W fun e w' => ∃ g c, e = .returned (.slice (some ⟨g, 0, none⟩) (m + 1) c) ∧ m + 1 ≤ c ∧ w'.cell? ⟨g, m, none⟩ = some (.string ((cutBd 10 s).getD m ⟨#[]⟩)) ∧ Hid (∀ j x, (cutBd 10 s)[j]? = some x → w'.cell? ⟨g, j, none⟩ = some (.string x)) ∧ Hid (g < w'.heap.size) ∧ Hid (Below W.heap.size W w')) := fun W => (specCutD 10 10 rfl s hs W).mono fun e w' ⟨g, c, h1, hS, h2⟩ => by
    rw [hm] at h1
    have hcap : m + 1 ≤ c := by
      have h := hS.out
      unfold OwnS at h
      rcases h.2 with ⟨h3, _⟩ | ⟨g', cap, cur, h3, _, _, h4, _⟩
      · cases h3
      · injection h3 with _ _ h3; subst h3; omega
    exact ⟨g, c, h1, hcap, hS.out.cell (getD_some (by omega)), fun j x hx => hS.out.cell hx, (World.ownsRow.lt hS.out g rfl).2, h2⟩
  have hmb : m ≤ 1048576 := by have := cutBd_len 10 s; omega
  have e1 : ((m + 1 : Nat) : Int) - 1 = (m : Int) := by omega
  clear hm
  generalize cutBd 10 s = P at *
  generalize P.getD m ⟨#[]⟩ = last at *
  go_enter Tryd.func70, Tryd.ntmps70
  go_wp2_with fail
  refine (HC.out _).mono ?_
  rintro e w1 ⟨g, c, rfl, hc, hcell, hP, hg, hB⟩
  have e2 : ((m : Int) + 1) - 1 = (m : Int) := by omega
  go_wp2_with fail
  go_quiet (fail)
  have HE : Hid (Below w.heap.size w (w1.drewN nq)) := hB.out.trans ⟨rfl, rfl, rfl, Nat.le_refl _, fun _ _ => rfl⟩
  go_wp2_with fail
  go_ret2
  exact ⟨g, c, rfl, hP.out, hg.out, HE⟩

theorem take_oneJ (x : ByteArray) (i : Nat) (h : i < x.size) : x.data.toList.take (i + 1) = x.data.toList.take i ++ [x[i]'h] := by
  rw [List.take_succ_eq_append_getElem (by rw [size_list]; exact h)]; rfl
theorem split_atJ (x : ByteArray) (i : Nat) (h : i < x.size) (h32 : x[i]'h = 32) : x.data.toList = (x.extract 0 i).data.toList ++ 32 :: (x.extract (i + 1) x.size).data.toList ∧ (x.extract 0 i).data.toList = x.data.toList.take i := by
  have e1 : (x.extract 0 i).data.toList = x.data.toList.take i := by rw [Lib.extract_data, List.drop_zero, Nat.sub_zero]
  have e2 : (x.extract (i + 1) x.size).data.toList = x.data.toList.drop (i + 1) := by rw [Lib.extract_data, List.take_of_length_le (by rw [List.length_drop, size_list]; omega)]
  refine ⟨?_, e1⟩
  rw [e1, e2, ← h32]
  have := drop_atD x i h
  rw [← this]
  exact (List.take_append_drop i _).symm

theorem drop_stepJ {L : List (List UInt8)} {k : Nat} (h : k < L.length) : L.drop k = L.getD k [] :: L.drop (k + 1) := by
  rw [List.drop_eq_getElem_cons h]; simp [List.getD, h]

def rcL (s : ByteArray) : List ByteArray := (recA 0 (cutD 10 s.data.toList)).1.map bytesD
def rcN (s : ByteArray) : Nat := (recA 0 (cutD 10 s.data.toList)).2

set_option maxHeartbeats 400000 in
set_option maxRecDepth 10000 in
theorem specRec (s : ByteArray) (hs : s.size ≤ 1048576) (w : World) :
    Calls Tryd.prog 78 #[.string s] w fun e w' => ∃ A c, e = .returned (.tuple #[.slice A (rcL s).length c, .int .i64 (rcN s : Nat)]) ∧ Hid (w'.ownsRow w.heap.size 9 1 (.slice A (rcL s).length c) (rcL s).length ((rcL s).map Value.string)) ∧ Hid (Below w.heap.size w w') := by
  obtain ⟨m, hm⟩ : ∃ m, (cutBd 10 s).length = m + 1 := by
    obtain ⟨p, ps, h⟩ := cutBd_cons 10 s
    exact ⟨ps.length, by rw [h]; rfl⟩
  have hmb : m ≤ 1048576 := by have := cutBd_len 10 s; omega
  have HL := Lib.hid (specLines s hs m hm w)
  have HLen : Hid ((cutD 10 s.data.toList).length = m + 1) := by
    show _ = _
    rw [← hm]; unfold cutBd; rw [List.length_map]
  have HX : Hid (∀ k, k < m → ∃ x : ByteArray, (cutBd 10 s)[k]? = some x ∧ x.size ≤ 1048576 ∧ (cutD 10 s.data.toList).drop k = x.data.toList :: (cutD 10 s.data.toList).drop (k + 1) ∧ (cutD 10 s.data.toList).drop (k + 1) ≠ []) := fun k hk => by
    have hl := HLen.out
    refine ⟨bytesD ((cutD 10 s.data.toList).getD k []), ?_, ?_, ?_, ?_⟩
    · unfold cutBd
      rw [List.getElem?_map, List.getElem?_eq_getElem (by omega)]
      simp [List.getD, show k < (cutD 10 s.data.toList).length by omega]
    · refine Nat.le_trans (part_sizeJ (d := 10) (s := s) ?_) hs
      unfold cutBd
      refine List.mem_map_of_mem ?_
      rw [show (cutD 10 s.data.toList).getD k [] = (cutD 10 s.data.toList)[k]'(by omega) by simp [List.getD, show k < (cutD 10 s.data.toList).length by omega]]
      exact List.getElem_mem _
    · rw [drop_stepJ (by omega)]; rfl
    · intro h
      have := congrArg List.length h
      rw [List.length_drop] at this
      simp at this
      omega
  have HZ : Hid (∀ c, recA c ((cutD 10 s.data.toList).drop m) = ([], 0)) := fun c => by
    have hl := HLen.out
    rw [drop_stepJ (by omega), List.drop_of_length_le (by omega), recA_last]
  obtain ⟨i0, hi, hz0, hz1, hz2⟩ := info_parts info_str2
  have HI := Lib.hid (And.intro hi (And.intro hz0 (And.intro hz1 hz2)))
  have FIN : Hid (∀ (O : List ByteArray) (T : Nat), recA 0 (cutD 10 s.data.toList) = (O.map (·.data.toList) ++ [], T + 0) → rcL s = O ∧ rcN s = T) := fun O T h => by
    unfold rcL rcN
    rw [h, List.append_nil]
    exact ⟨list_backD O, rfl⟩
  generalize rcL s = RL at *
  generalize rcN s = RN at *
  clear hi hz0 hz1 hz2 hm HLen
  generalize cutD 10 s.data.toList = L at *
  generalize cutBd 10 s = P at *
  have E0 : Hid (recA 0 L = ([] ++ (recA 0 (L.drop 0)).1, 0 + (recA 0 (L.drop 0)).2)) := by show _ = _; rw [List.drop_zero, Nat.zero_add]; rfl
  go_enter Tryd.func78, Tryd.ntmps78
  go_wp2_with fail
  refine HL.out.mono ?_
  rintro e w1 ⟨g, cg, rfl, hP, hg, hB1⟩
  have HP := Lib.hid hP
  have Hg := Lib.hid hg
  have O0 : Hid ((w1.alloc (.cells #[] 9)).ownsRow w1.heap.size 9 1 (.slice (some ⟨w1.heap.size, 0, none⟩) 0 0) 0 []) := World.ownsRow_lit w1 #[] 0 (Nat.le_refl _) (by decide) rfl
  have B0 : Hid (Below w1.heap.size w1 (w1.alloc (.cells #[] 9))) := (Below.refl _ _).alloc (Nat.le_refl _) _
  clear hP hg
  go_wp2_with fail
  generalize w1.alloc (.cells #[] 9) = a1 at *
  go_loopw [6, 7, 8, 9] (fun o q t i wr => ∃ (O : List ByteArray) (c : Int) (T k : Nat) (A : Option Addr) (cap : Nat), o = .slice A O.length cap ∧ q = .int .i64 c ∧ t = .int .i64 T ∧ i = .int .i64 k ∧ 0 ≤ c ∧ c < 65003 ∧ k ≤ m ∧ O.length ≤ k ∧ Hid (T ≤ k * 1048577) ∧ Hid (wr.ownsRow w1.heap.size 9 1 (.slice A O.length cap) O.length (O.map Value.string)) ∧ Hid (recA 0 L = (O.map (·.data.toList) ++ (recA c (L.drop k)).1, T + (recA c (L.drop k)).2)) ∧ Hid (Below w1.heap.size w1 wr)) (fun _ _ _ i _ => m - (intOf i).toNat)
  case atStart => exact ⟨[], 0, 0, 0, _, _, rfl, rfl, rfl, rfl, by omega, by omega, Nat.zero_le _, Nat.le_refl _, Nat.zero_le _, O0, E0, B0⟩
  case round =>
    obtain ⟨O, c, T, k, A, cap, rfl, rfl, rfl, rfl, hc0, hc1, hk, hOk, hT, hO, hE, hB⟩ := hrel
    by_cases hlt : k < m
    · obtain ⟨x, hx, hxs, hdr, hne⟩ := HX.out k hlt
      have hc : wr.cell? ⟨g, k, none⟩ = some (.string x) := by rw [hB.out.cell (p := ⟨g, k, none⟩) Hg.out]; exact HP.out k x hx
      have HD := Lib.hid (And.intro hdr hne)
      have HPx := Lib.hid (HP.out k x hx)
      have hT2 : T ≤ 2000000000000 := by
        have h1 := hT.out
        have : k * 1048577 ≤ 1048577 * 1048577 := Nat.mul_le_mul_right _ (by omega)
        omega
      clear hx hdr hne
      go_wp2_with fail
      go_loop [10] (fun j => ∃ i : Nat, i ≤ x.size ∧ j = .int .i64 i ∧ Hid (plainD 32 (x.data.toList.take i))) (fun j => x.size - (intOf j).toNat)
      case atStart => exact ⟨0, Nat.zero_le _, rfl, fun y hy => by simp at hy⟩
      case round =>
        obtain ⟨i, hi, rfl, hpl⟩ := hrel
        by_cases hi2 : i < x.size
        · by_cases h32 : x[i]'hi2 = 32
          · have hcb : (((x[i]'hi2).toNat : Int) != 32) = false := by rw [h32]; rfl
            have hcb2 : (((x[i]'hi2).toNat : Int) == 32) = true := by rw [h32]; rfl
            have hlen : ((i : Int) == (x.size : Int)) = false := by simp; omega
            obtain ⟨hsp, htk⟩ := split_atJ x i hi2 h32
            have hpa : plainD 32 (x.extract 0 i).data.toList := by rw [htk]; exact hpl.out
            have hbs : (x.extract (i + 1) x.size).size ≤ 1048576 := by rw [ByteArray.size_extract]; omega
            have HCk := Lib.hid (fun W => specCheck c (x.extract (i + 1) x.size) ⟨hc0, hc1⟩ hbs W)
            have hcbd := chk_bd c (x.extract (i + 1) x.size).data.toList ⟨hc0, hc1⟩
            have HDe := Lib.hid (fun W => specDec (chk c (x.extract (i + 1) x.size).data.toList) (by omega) (by omega) W)
            have hBd : Hid (Below w1.heap.size w1 wr.drew) := hB.out.drew
            by_cases heq : (x.extract 0 i).data.toList = Lib.itoa (chk c (x.extract (i + 1) x.size).data.toList)
            · have hte : ((x.extract 0 i).toList == (⟨(Lib.itoa (chk c (x.extract (i + 1) x.size).data.toList)).toArray⟩ : ByteArray).toList) = true := by
                rw [beq_iff_eq, Go.ByteArray.toList_eq, Go.ByteArray.toList_eq, heq]
              have E2 : Hid (recA 0 L = ((O ++ [x.extract (i + 1) x.size]).map (·.data.toList) ++ (recA (chk c (x.extract (i + 1) x.size).data.toList) (L.drop (k + 1))).1, (T + (x.size + 1)) + (recA (chk c (x.extract (i + 1) x.size).data.toList) (L.drop (k + 1))).2)) := by
                show _ = _
                rw [hE.out, HD.out.1, hsp, recA_go HD.out.2 hpa heq, ← hsp]
                congr 1
                · simp
                · rw [size_list]; omega
              clear hE hsp htk hpa heq h32 hpl hbs
              generalize (⟨(Lib.itoa (chk c (x.extract (i + 1) x.size).data.toList)).toArray⟩ : ByteArray) = zz at *
              generalize chk c (x.extract (i + 1) x.size).data.toList = cc at *
              go_wp2_with fail
              refine (HCk.out _).mono ?_
              rintro e w2 ⟨rfl, rfl⟩
              go_wp2_with fail
              go_region_held3 (fun w' => w'.cell? ⟨g, k, none⟩ = some (.string x) ∧ Hid (Below w1.heap.size w1 w')) (first | (exact ⟨by assumption, by assumption⟩) | go_keep)
                ((go_at_call 114; refine (HDe.out _).mono ?_; rintro e w3 ⟨rfl, hb3⟩; obtain ⟨hk1, hk2⟩ := keepT1 (o := k) (v := .string x) hb3 (by assumption) (by assumption) Hg.out))
              have S3 : Hid (w3.ownsRow w1.heap.size 9 1 (.slice A O.length cap) O.length (O.map Value.string)) := own_below (w := w2.drew) hO.out hb3
              have z3 : Hid (w1.heap.size ≤ w3.heap.size) := hk2.out.size
              have g4 : O.length ≤ 1048576 := by omega
              clear hb3 hBd hc hO hB
              go_wp2_with (at_builtin; refine wpList_append_own _ rfl _ _ 44 rfl w1.heap.size 9 i0 (.string ⟨#[]⟩) 1 16 Tryd.underlying44 HI.out.1 HI.out.2.1 HI.out.2.2.1 HI.out.2.2.2 rfl (by decide) _ O.length (O.map Value.string) rfl (World.ownsRow.alloc S3.out _) ⟨w3.heap.size, 0, none⟩ 1 1 [.string (x.extract (i + 1) x.size)] rfl rfl (World.ownsRow.cells (World.ownsRow_lit (base := w1.heap.size) (e := 9) (size := 1) w3 #[.string (x.extract (i + 1) x.size)] 1 z3.out (by decide) rfl) rfl) (by intro u hu; rw [List.mem_singleton.1 hu]; rfl) (by unfold maxLen; omega) (by omega) (by simp; exact Nat.le_succ_of_le z3.out) ?_)
              intro v' w5 h2 hg2 hv2
              obtain ⟨gg, c2, rfl, O2⟩ := OwnS.of (P := O ++ [x.extract (i + 1) x.size]) (by rw [List.map_append]; exact h2) (by simp) hv2
              have HB5 := Lib.hid ((hk2.out.alloc z3.out _).grown hg2 (by simp; exact Nat.le_succ_of_le z3.out) (fun q hq => own_base S3.out q hq))
              have HO5 := Lib.hid O2
              have hc5 : w5.cell? ⟨g, k, none⟩ = some (.string x) := by rw [HB5.out.cell (p := ⟨g, k, none⟩) Hg.out]; exact HPx.out
              have hOl : (O ++ [x.extract (i + 1) x.size]).length ≤ k + 1 := by simp; exact hOk
              have hT5 : Hid (T + (x.size + 1) ≤ (k + 1) * 1048577) := by show _ ≤ _; have := hT.out; omega
              generalize O ++ [x.extract (i + 1) x.size] = O5 at *
              clear hv2 hg2 h2 O2 S3 hk1 hk2 hT hOk g4
              go_wp2_with fail
              go_roundw
              case rel => exact ⟨O5, cc, T + (x.size + 1), k + 1, _, c2, by first | rfl | simp, rfl, by go_num, by go_num, hcbd.1, hcbd.2, by omega, hOl, hT5, HO5, E2, HB5⟩
              case measure => simp [intOf]; omega
            · have hte : ((x.extract 0 i).toList == (⟨(Lib.itoa (chk c (x.extract (i + 1) x.size).data.toList)).toArray⟩ : ByteArray).toList) = false := by
                rw [beq_eq_false_iff_ne, Go.ByteArray.toList_eq, Go.ByteArray.toList_eq]; exact heq
              have M := Lib.hid (FIN.out O T (by rw [hE.out, HD.out.1, hsp, recA_stop _ hpa heq]))
              clear hE hsp htk hpa heq h32 hpl hbs
              generalize (⟨(Lib.itoa (chk c (x.extract (i + 1) x.size).data.toList)).toArray⟩ : ByteArray) = zz at *
              generalize chk c (x.extract (i + 1) x.size).data.toList = cc at *
              go_wp2_with fail
              refine (HCk.out _).mono ?_
              rintro e w2 ⟨rfl, rfl⟩
              go_wp2_with fail
              go_region_held3 (fun w' => w'.cell? ⟨g, k, none⟩ = some (.string x) ∧ Hid (Below w1.heap.size w1 w')) (first | (exact ⟨by assumption, by assumption⟩) | go_keep)
                ((go_at_call 114; refine (HDe.out _).mono ?_; rintro e w3 ⟨rfl, hb3⟩; obtain ⟨hk1, hk2⟩ := keepT1 (o := k) (v := .string x) hb3 (by assumption) (by assumption) Hg.out))
              have S3 : Hid (w3.ownsRow w1.heap.size 9 1 (.slice A O.length cap) O.length (O.map Value.string)) := own_below (w := w2.drew) hO.out hb3
              clear hb3 hk1 hBd hc hO hB
              go_wp2_with fail
              go_ret2
              exact ⟨A, cap, by rw [M.out.1, M.out.2]; rfl, by rw [M.out.1]; exact ⟨S3.out.1, S3.out.2.elim .inl fun ⟨g1, cap1, cur, h1, h2, h3⟩ => .inr ⟨g1, cap1, cur, h1, Nat.le_trans hB1.out.size h2, h3⟩⟩, hB1.out.trans (hk2.out.mono hB1.out.size)⟩
          · have hcb : (((x[i]'hi2).toNat : Int) != 32) = true := by
              rw [bne_iff_ne]; intro e; exact h32 (UInt8.toNat_inj.1 (by have : (32 : UInt8).toNat = 32 := rfl; omega))
            have hcb2 : (((x[i]'hi2).toNat : Int) == 32) = false := by
              rw [beq_eq_false_iff_ne]; intro e; exact h32 (UInt8.toNat_inj.1 (by have : (32 : UInt8).toNat = 32 := rfl; omega))
            have N : Hid (plainD 32 (x.data.toList.take (i + 1))) := by
              intro y hy
              rw [take_oneJ x i hi2, List.mem_append, List.mem_singleton] at hy
              rcases hy with hy | hy
              · exact hpl.out y hy
              · rw [hy]; exact h32
            clear h32 hpl
            go_wp2_with fail
            go_round
            case rel => exact ⟨i + 1, by omega, by go_num, N⟩
            case measure => simp [intOf]; omega
        · obtain rfl : i = x.size := by omega
          have heq : ((x.size : Int) == (x.size : Int)) = true := by simp
          have M := Lib.hid (FIN.out O T (by
            have hp2 : plainD 32 x.data.toList := by
              have := hpl.out
              rwa [List.take_of_length_le (by rw [size_list]; exact Nat.le_refl _)] at this
            rw [hE.out, HD.out.1, recA_plain _ _ hp2]))
          clear hE hpl
          go_wp2_with fail
          go_ret2
          exact ⟨A, cap, by rw [M.out.1, M.out.2]; rfl, by rw [M.out.1]; exact ⟨hO.out.1, hO.out.2.elim .inl fun ⟨g1, cap1, cur, h1, h2, h3⟩ => .inr ⟨g1, cap1, cur, h1, Nat.le_trans hB1.out.size h2, h3⟩⟩, hB1.out.trans (hB.out.mono hB1.out.size)⟩
    · obtain rfl : k = m := by omega
      have M := Lib.hid (FIN.out O T (by rw [hE.out, HZ.out]))
      clear hE
      go_wp2_with fail
      go_ret2
      exact ⟨A, cap, by rw [M.out.1, M.out.2]; rfl, by rw [M.out.1]; exact ⟨hO.out.1, hO.out.2.elim .inl fun ⟨g1, cap1, cur, h1, h2, h3⟩ => .inr ⟨g1, cap1, cur, h1, Nat.le_trans hB1.out.size h2, h3⟩⟩, hB1.out.trans (hB.out.mono hB1.out.size)⟩

end Go.Proofs.YtegbclfjcckglaaDoor
