/-
  What is proved here: UnpackCells, of both packages, as walks. Conditions: a text of at most 1048576 bytes.
-/
import Derived.Test.YtjojhklbikgfoaaUnp
namespace Go.Proofs.Ytjojhklbikgfoaa
open Go.RowKit
set_option linter.unusedVariables false

theorem implPakNo (A : Option Addr) (n c : Nat) (w : World) (hn : 256 < n) (hn2 : n ≤ 1048576) :
    Calls Try.prog 66 #[.slice A n c] w fun e w' => e = .returned (.tuple #[.string ⟨#[]⟩, .bool false]) ∧ Hid (Below w.heap.size w w') := by
  go_enter Try.func66, Try.ntmps66
  go_wp2_with fail
  go_ret2
  exact ⟨rfl, Below.refl _ _⟩

set_option maxHeartbeats 16000000 in
set_option maxRecDepth 100000 in
theorem implUnYes (s : ByteArray) (hs : s.size ≤ 1048576) (w : World) (hk : okU s = true) :
    Calls Try.prog 25 #[.string s] w fun e w' => ∃ A c, e = .returned (.tuple #[.slice A (unpL s).length c, .bool true]) ∧ Hid (RowW w' w.heap.size w'.heap.size A (unpL s).length (bo (atB (unpL s)))) ∧ Hid (Below w.heap.size w w') := by
  have hR : Hid (unpU s s.size 0 false [] = unpL s) := by show _ = _; rfl
  unfold okU at hk
  generalize unpL s = R at *
  have HK := Lib.hid hk
  clear hk
  have H0 : Hid (GroB w w.heap.size [] none 0) := GroB.nil _ _
  have HB0 : Hid (Below w.heap.size w w) := Below.refl _ _
  go_enter Try.func25, Try.ntmps25
  go_wp2_with fail
  go_loopw [4, 5, 6] (fun o fu at' wr => ∃ (m t : Nat) (f : Bool) (L : List Bool) (A : Option Addr) (c : Nat), t ≤ s.size ∧ s.size ≤ t + m ∧ L.length ≤ 766 ∧ o = .slice A L.length c ∧ fu = .bool f ∧ at' = .int .i64 (t : Nat) ∧ Hid (unpU s m t f L = R) ∧ Hid (GroB wr w.heap.size L A c) ∧ Hid (Below w.heap.size w wr)) (fun _ _ at' _ => s.size - (intOf at').toNat)
  case atStart => exact ⟨s.size, 0, false, [], _, 0, Nat.zero_le _, by omega, Nat.zero_le _, rfl, rfl, rfl, hR, H0, HB0⟩
  case round =>
    clear H0 HB0 hR
    obtain ⟨m, t, f, L, A, c, ht, hm, hL, rfl, rfl, rfl, hW0, hO, hB⟩ := hrel
    by_cases hc : t < s.size ∧ L.length ≤ 256
    · obtain ⟨h1, h2⟩ := hc
      obtain ⟨u, rfl⟩ : ∃ u, m = u + 1 := ⟨m - 1, by omega⟩
      have hW0 := hW0.out
      rw [unpU_go h1 h2] at hW0
      have h1i : (t : Int) < s.size := by omega
      have h2i : (L.length : Int) ≤ 256 := by omega
      by_cases hq : (s[t]'h1).toNat = 255
      · by_cases h3 : t + 1 < s.size
        · have hq2 := And.intro hq h3
          clear h3
          obtain ⟨hq, h3⟩ := hq2
          obtain ⟨q, hqe⟩ : ∃ q, (s[t + 1]'h3).toNat = q := ⟨_, rfl⟩
          have hrun : runU s t = 255 + q := by unfold runU; rw [rdU_at h1, if_pos ⟨hq, h3⟩, rdU_at h3, hqe]
          have hadv : advU s t = 2 := by unfold advU; rw [rdU_at h1, if_pos ⟨hq, h3⟩]
          have hqb : q ≤ 255 := by have := rdU_lt s (t + 1); rw [rdU_at h3, hqe] at this; exact this
          have h3i : ((t : Int) + 1) < s.size := by omega
          obtain ⟨r, hr⟩ : ∃ r, r = 255 + q := ⟨_, rfl⟩
          have hrI : (255 : Int) + (q : Int) = (r : Int) := by omega
          have hrb : r ≤ 510 := by omega
          have hW := hW0
          rw [hrun, hadv, ← hr] at hW
          have HW := Lib.hid hW
          have HRI := Lib.hid hrI
          clear hW hW0 hrun hadv hrI hr
          go_wp2_with fail
          have hbA : Hid (Below wr.heap.size wr (wr.alloc (.cells #[.bool f] 4))) := (Below.refl _ _).alloc (Nat.le_refl _) _
          have hcA : Hid ((wr.alloc (.cells #[.bool f] 4)).cell? ⟨wr.heap.size, 0, none⟩ = some (.bool f)) := by show _ = _; simp [World.cell?, World.alloc, -World.alloc_eq]
          have hltA : wr.heap.size < (wr.alloc (.cells #[.bool f] 4)).heap.size := by simp
          have HREP := Lib.hid (repB f wr.heap.size 0 r 1 (wr.alloc (.cells #[.bool f] 4)) hltA hcA.out (by omega))
          rw [← HRI.out] at HREP
          clear hltA hcA
          generalize wr.alloc (.cells #[.bool f] 4) = w1 at *
          refine HREP.out.mono ?_
          rintro e w2 ⟨rfl, hM, hb2⟩
          have HO2 := Lib.hid ((hO.out.below hbA.out).below hb2.out)
          have HB2 := Lib.hid ((hB.out.trans (hbA.out.mono hB.out.size)).trans (hb2.out.mono (Nat.le_trans hB.out.size hbA.out.size)))
          clear HREP hO hB hbA hb2
          go_wp2_with (at_builtin; refine wpGroBL rfl _ _ rfl HO2.out hM.out rfl rfl (by omega) HB2.out.size ?_; intro A' c' w4 O4 B4; have HO4 := Lib.hid O4; have HB4 := Lib.hid (HB2.out.trans B4); clear O4 B4 HO2 HB2 hM)
          go_roundw
          case rel => exact ⟨u, t + 2, !f, L ++ List.replicate r f, A', c', by omega, by omega, by rw [List.length_append, List.length_replicate]; omega, by rw [List.length_append, List.length_replicate], rfl, by first | rfl | go_num | (congr 1; omega), HW, HO4, HB4⟩
          case measure => simp [intOf]; omega
        · have hq2 := And.intro hq h3
          clear h3
          obtain ⟨hq, h3⟩ := hq2
          have hrun : runU s t = 255 := by unfold runU; rw [rdU_at h1, if_neg (fun h => h3 h.2), hq]
          have hadv : advU s t = 1 := by unfold advU; rw [rdU_at h1, if_neg (fun h => h3 h.2)]
          have h3i : ¬ ((t : Int) + 1) < s.size := by omega
          obtain ⟨r, hr⟩ : ∃ r, r = 255 := ⟨_, rfl⟩
          have hrI : (255 : Int) = (r : Int) := by omega
          have hrb : r ≤ 510 := by omega
          have hW := hW0
          rw [hrun, hadv, ← hr] at hW
          have HW := Lib.hid hW
          have HRI := Lib.hid hrI
          clear hW hW0 hrun hadv hrI hr
          go_wp2_with fail
          have hbA : Hid (Below wr.heap.size wr (wr.alloc (.cells #[.bool f] 4))) := (Below.refl _ _).alloc (Nat.le_refl _) _
          have hcA : Hid ((wr.alloc (.cells #[.bool f] 4)).cell? ⟨wr.heap.size, 0, none⟩ = some (.bool f)) := by show _ = _; simp [World.cell?, World.alloc, -World.alloc_eq]
          have hltA : wr.heap.size < (wr.alloc (.cells #[.bool f] 4)).heap.size := by simp
          have HREP := Lib.hid (repB f wr.heap.size 0 r 1 (wr.alloc (.cells #[.bool f] 4)) hltA hcA.out (by omega))
          rw [← HRI.out] at HREP
          clear hltA hcA
          generalize wr.alloc (.cells #[.bool f] 4) = w1 at *
          refine HREP.out.mono ?_
          rintro e w2 ⟨rfl, hM, hb2⟩
          have HO2 := Lib.hid ((hO.out.below hbA.out).below hb2.out)
          have HB2 := Lib.hid ((hB.out.trans (hbA.out.mono hB.out.size)).trans (hb2.out.mono (Nat.le_trans hB.out.size hbA.out.size)))
          clear HREP hO hB hbA hb2
          go_wp2_with (at_builtin; refine wpGroBL rfl _ _ rfl HO2.out hM.out rfl rfl (by omega) HB2.out.size ?_; intro A' c' w4 O4 B4; have HO4 := Lib.hid O4; have HB4 := Lib.hid (HB2.out.trans B4); clear O4 B4 HO2 HB2 hM)
          go_roundw
          case rel => exact ⟨u, t + 1, !f, L ++ List.replicate r f, A', c', by omega, by omega, by rw [List.length_append, List.length_replicate]; omega, by rw [List.length_append, List.length_replicate], rfl, by first | rfl | go_num | (congr 1; omega), HW, HO4, HB4⟩
          case measure => simp [intOf]; omega
      · have hq2 := hq
        clear hq
        obtain ⟨q, hqe⟩ : ∃ q, (s[t]'h1).toNat = q := ⟨_, rfl⟩
        rw [hqe] at hq2
        have hrun : runU s t = q := by unfold runU; rw [rdU_at h1, hqe, if_neg (fun h => hq2 h.1)]
        have hadv : advU s t = 1 := by unfold advU; rw [rdU_at h1, hqe, if_neg (fun h => hq2 h.1)]
        have hqb : q ≤ 255 := by have := rdU_lt s t; rw [rdU_at h1, hqe] at this; exact this
        have hqi : ((q : Int) == 255) = false := by rw [beq_eq_false_iff_ne]; omega
        obtain ⟨r, hr⟩ : ∃ r, r = q := ⟨_, rfl⟩
        have hrI : (q : Int) = (r : Int) := by omega
        have hrb : r ≤ 510 := by omega
        have hW := hW0
        rw [hrun, hadv, ← hr] at hW
        have HW := Lib.hid hW
        have HRI := Lib.hid hrI
        clear hW hW0 hrun hadv hrI hr
        go_wp2_with fail
        have hbA : Hid (Below wr.heap.size wr (wr.alloc (.cells #[.bool f] 4))) := (Below.refl _ _).alloc (Nat.le_refl _) _
        have hcA : Hid ((wr.alloc (.cells #[.bool f] 4)).cell? ⟨wr.heap.size, 0, none⟩ = some (.bool f)) := by show _ = _; simp [World.cell?, World.alloc, -World.alloc_eq]
        have hltA : wr.heap.size < (wr.alloc (.cells #[.bool f] 4)).heap.size := by simp
        have HREP := Lib.hid (repB f wr.heap.size 0 r 1 (wr.alloc (.cells #[.bool f] 4)) hltA hcA.out (by omega))
        rw [← HRI.out] at HREP
        clear hltA hcA
        generalize wr.alloc (.cells #[.bool f] 4) = w1 at *
        refine HREP.out.mono ?_
        rintro e w2 ⟨rfl, hM, hb2⟩
        have HO2 := Lib.hid ((hO.out.below hbA.out).below hb2.out)
        have HB2 := Lib.hid ((hB.out.trans (hbA.out.mono hB.out.size)).trans (hb2.out.mono (Nat.le_trans hB.out.size hbA.out.size)))
        clear HREP hO hB hbA hb2
        go_wp2_with (at_builtin; refine wpGroBL rfl _ _ rfl HO2.out hM.out rfl rfl (by omega) HB2.out.size ?_; intro A' c' w4 O4 B4; have HO4 := Lib.hid O4; have HB4 := Lib.hid (HB2.out.trans B4); clear O4 B4 HO2 HB2 hM)
        go_roundw
        case rel => exact ⟨u, t + 1, !f, L ++ List.replicate r f, A', c', by omega, by omega, by rw [List.length_append, List.length_replicate]; omega, by rw [List.length_append, List.length_replicate], rfl, by first | rfl | go_num | (congr 1; omega), HW, HO4, HB4⟩
        case measure => simp [intOf]; omega
    · have hE : L = R := (unpU_stop hc m).symm.trans hW0.out
      subst hE
      by_cases h1 : t < s.size
      · have h2 : 256 < L.length := by omega
        have h1i : (t : Int) < s.size := by omega
        clear hW0 hc hm
        exfalso
        have := of_decide_eq_true (Bool.and_eq_true _ _ ▸ HK.out).1
        omega
      · have h1i : ¬ (t : Int) < s.size := by omega
        clear hW0 hc hm
        obtain ⟨hk1, hk2⟩ := Bool.and_eq_true _ _ ▸ HK.out
        have hl := of_decide_eq_true hk1
        have HP := Lib.hid (fun W h => implPak A L.length c (atB L) W h hO.out.cap hl)
        rw [text_eqU hk2] at HP
        clear hk1 hk2 HK
        go_wp2_with fail
        refine (HP.out wr hO.out.rowW.toRow).mono ?_
        rintro e w2 ⟨rfl, hb2⟩
        have HR2 := Lib.hid ((hO.out.below hb2.out).rowW)
        have HB2 := Lib.hid (hB.out.trans (hb2.out.mono hB.out.size))
        clear hb2 HP hO hB
        go_wp2_with fail
        go_ret2
        first | exact ⟨A, c, rfl, HR2, HB2⟩ | exact ⟨A, ⟨c, rfl⟩, HR2, HB2⟩

set_option maxHeartbeats 16000000 in
set_option maxRecDepth 100000 in
theorem implUnNo (s : ByteArray) (hs : s.size ≤ 1048576) (w : World) (hk : okU s = false) :
    Calls Try.prog 25 #[.string s] w fun e w' => ∃ A c, e = .returned (.tuple #[.slice A 0 c, .bool false]) ∧ Hid (RowW w' w.heap.size w'.heap.size A 0 (bo (fun _ => false))) ∧ Hid (Below w.heap.size w w') := by
  have hR : Hid (unpU s s.size 0 false [] = unpL s) := by show _ = _; rfl
  unfold okU at hk
  generalize unpL s = R at *
  have HK := Lib.hid hk
  clear hk
  have H0 : Hid (GroB w w.heap.size [] none 0) := GroB.nil _ _
  have HB0 : Hid (Below w.heap.size w w) := Below.refl _ _
  go_enter Try.func25, Try.ntmps25
  go_wp2_with fail
  go_loopw [4, 5, 6] (fun o fu at' wr => ∃ (m t : Nat) (f : Bool) (L : List Bool) (A : Option Addr) (c : Nat), t ≤ s.size ∧ s.size ≤ t + m ∧ L.length ≤ 766 ∧ o = .slice A L.length c ∧ fu = .bool f ∧ at' = .int .i64 (t : Nat) ∧ Hid (unpU s m t f L = R) ∧ Hid (GroB wr w.heap.size L A c) ∧ Hid (Below w.heap.size w wr)) (fun _ _ at' _ => s.size - (intOf at').toNat)
  case atStart => exact ⟨s.size, 0, false, [], _, 0, Nat.zero_le _, by omega, Nat.zero_le _, rfl, rfl, rfl, hR, H0, HB0⟩
  case round =>
    clear H0 HB0 hR
    obtain ⟨m, t, f, L, A, c, ht, hm, hL, rfl, rfl, rfl, hW0, hO, hB⟩ := hrel
    by_cases hc : t < s.size ∧ L.length ≤ 256
    · obtain ⟨h1, h2⟩ := hc
      obtain ⟨u, rfl⟩ : ∃ u, m = u + 1 := ⟨m - 1, by omega⟩
      have hW0 := hW0.out
      rw [unpU_go h1 h2] at hW0
      have h1i : (t : Int) < s.size := by omega
      have h2i : (L.length : Int) ≤ 256 := by omega
      by_cases hq : (s[t]'h1).toNat = 255
      · by_cases h3 : t + 1 < s.size
        · have hq2 := And.intro hq h3
          clear h3
          obtain ⟨hq, h3⟩ := hq2
          obtain ⟨q, hqe⟩ : ∃ q, (s[t + 1]'h3).toNat = q := ⟨_, rfl⟩
          have hrun : runU s t = 255 + q := by unfold runU; rw [rdU_at h1, if_pos ⟨hq, h3⟩, rdU_at h3, hqe]
          have hadv : advU s t = 2 := by unfold advU; rw [rdU_at h1, if_pos ⟨hq, h3⟩]
          have hqb : q ≤ 255 := by have := rdU_lt s (t + 1); rw [rdU_at h3, hqe] at this; exact this
          have h3i : ((t : Int) + 1) < s.size := by omega
          obtain ⟨r, hr⟩ : ∃ r, r = 255 + q := ⟨_, rfl⟩
          have hrI : (255 : Int) + (q : Int) = (r : Int) := by omega
          have hrb : r ≤ 510 := by omega
          have hW := hW0
          rw [hrun, hadv, ← hr] at hW
          have HW := Lib.hid hW
          have HRI := Lib.hid hrI
          clear hW hW0 hrun hadv hrI hr
          go_wp2_with fail
          have hbA : Hid (Below wr.heap.size wr (wr.alloc (.cells #[.bool f] 4))) := (Below.refl _ _).alloc (Nat.le_refl _) _
          have hcA : Hid ((wr.alloc (.cells #[.bool f] 4)).cell? ⟨wr.heap.size, 0, none⟩ = some (.bool f)) := by show _ = _; simp [World.cell?, World.alloc, -World.alloc_eq]
          have hltA : wr.heap.size < (wr.alloc (.cells #[.bool f] 4)).heap.size := by simp
          have HREP := Lib.hid (repB f wr.heap.size 0 r 1 (wr.alloc (.cells #[.bool f] 4)) hltA hcA.out (by omega))
          rw [← HRI.out] at HREP
          clear hltA hcA
          generalize wr.alloc (.cells #[.bool f] 4) = w1 at *
          refine HREP.out.mono ?_
          rintro e w2 ⟨rfl, hM, hb2⟩
          have HO2 := Lib.hid ((hO.out.below hbA.out).below hb2.out)
          have HB2 := Lib.hid ((hB.out.trans (hbA.out.mono hB.out.size)).trans (hb2.out.mono (Nat.le_trans hB.out.size hbA.out.size)))
          clear HREP hO hB hbA hb2
          go_wp2_with (at_builtin; refine wpGroBL rfl _ _ rfl HO2.out hM.out rfl rfl (by omega) HB2.out.size ?_; intro A' c' w4 O4 B4; have HO4 := Lib.hid O4; have HB4 := Lib.hid (HB2.out.trans B4); clear O4 B4 HO2 HB2 hM)
          go_roundw
          case rel => exact ⟨u, t + 2, !f, L ++ List.replicate r f, A', c', by omega, by omega, by rw [List.length_append, List.length_replicate]; omega, by rw [List.length_append, List.length_replicate], rfl, by first | rfl | go_num | (congr 1; omega), HW, HO4, HB4⟩
          case measure => simp [intOf]; omega
        · have hq2 := And.intro hq h3
          clear h3
          obtain ⟨hq, h3⟩ := hq2
          have hrun : runU s t = 255 := by unfold runU; rw [rdU_at h1, if_neg (fun h => h3 h.2), hq]
          have hadv : advU s t = 1 := by unfold advU; rw [rdU_at h1, if_neg (fun h => h3 h.2)]
          have h3i : ¬ ((t : Int) + 1) < s.size := by omega
          obtain ⟨r, hr⟩ : ∃ r, r = 255 := ⟨_, rfl⟩
          have hrI : (255 : Int) = (r : Int) := by omega
          have hrb : r ≤ 510 := by omega
          have hW := hW0
          rw [hrun, hadv, ← hr] at hW
          have HW := Lib.hid hW
          have HRI := Lib.hid hrI
          clear hW hW0 hrun hadv hrI hr
          go_wp2_with fail
          have hbA : Hid (Below wr.heap.size wr (wr.alloc (.cells #[.bool f] 4))) := (Below.refl _ _).alloc (Nat.le_refl _) _
          have hcA : Hid ((wr.alloc (.cells #[.bool f] 4)).cell? ⟨wr.heap.size, 0, none⟩ = some (.bool f)) := by show _ = _; simp [World.cell?, World.alloc, -World.alloc_eq]
          have hltA : wr.heap.size < (wr.alloc (.cells #[.bool f] 4)).heap.size := by simp
          have HREP := Lib.hid (repB f wr.heap.size 0 r 1 (wr.alloc (.cells #[.bool f] 4)) hltA hcA.out (by omega))
          rw [← HRI.out] at HREP
          clear hltA hcA
          generalize wr.alloc (.cells #[.bool f] 4) = w1 at *
          refine HREP.out.mono ?_
          rintro e w2 ⟨rfl, hM, hb2⟩
          have HO2 := Lib.hid ((hO.out.below hbA.out).below hb2.out)
          have HB2 := Lib.hid ((hB.out.trans (hbA.out.mono hB.out.size)).trans (hb2.out.mono (Nat.le_trans hB.out.size hbA.out.size)))
          clear HREP hO hB hbA hb2
          go_wp2_with (at_builtin; refine wpGroBL rfl _ _ rfl HO2.out hM.out rfl rfl (by omega) HB2.out.size ?_; intro A' c' w4 O4 B4; have HO4 := Lib.hid O4; have HB4 := Lib.hid (HB2.out.trans B4); clear O4 B4 HO2 HB2 hM)
          go_roundw
          case rel => exact ⟨u, t + 1, !f, L ++ List.replicate r f, A', c', by omega, by omega, by rw [List.length_append, List.length_replicate]; omega, by rw [List.length_append, List.length_replicate], rfl, by first | rfl | go_num | (congr 1; omega), HW, HO4, HB4⟩
          case measure => simp [intOf]; omega
      · have hq2 := hq
        clear hq
        obtain ⟨q, hqe⟩ : ∃ q, (s[t]'h1).toNat = q := ⟨_, rfl⟩
        rw [hqe] at hq2
        have hrun : runU s t = q := by unfold runU; rw [rdU_at h1, hqe, if_neg (fun h => hq2 h.1)]
        have hadv : advU s t = 1 := by unfold advU; rw [rdU_at h1, hqe, if_neg (fun h => hq2 h.1)]
        have hqb : q ≤ 255 := by have := rdU_lt s t; rw [rdU_at h1, hqe] at this; exact this
        have hqi : ((q : Int) == 255) = false := by rw [beq_eq_false_iff_ne]; omega
        obtain ⟨r, hr⟩ : ∃ r, r = q := ⟨_, rfl⟩
        have hrI : (q : Int) = (r : Int) := by omega
        have hrb : r ≤ 510 := by omega
        have hW := hW0
        rw [hrun, hadv, ← hr] at hW
        have HW := Lib.hid hW
        have HRI := Lib.hid hrI
        clear hW hW0 hrun hadv hrI hr
        go_wp2_with fail
        have hbA : Hid (Below wr.heap.size wr (wr.alloc (.cells #[.bool f] 4))) := (Below.refl _ _).alloc (Nat.le_refl _) _
        have hcA : Hid ((wr.alloc (.cells #[.bool f] 4)).cell? ⟨wr.heap.size, 0, none⟩ = some (.bool f)) := by show _ = _; simp [World.cell?, World.alloc, -World.alloc_eq]
        have hltA : wr.heap.size < (wr.alloc (.cells #[.bool f] 4)).heap.size := by simp
        have HREP := Lib.hid (repB f wr.heap.size 0 r 1 (wr.alloc (.cells #[.bool f] 4)) hltA hcA.out (by omega))
        rw [← HRI.out] at HREP
        clear hltA hcA
        generalize wr.alloc (.cells #[.bool f] 4) = w1 at *
        refine HREP.out.mono ?_
        rintro e w2 ⟨rfl, hM, hb2⟩
        have HO2 := Lib.hid ((hO.out.below hbA.out).below hb2.out)
        have HB2 := Lib.hid ((hB.out.trans (hbA.out.mono hB.out.size)).trans (hb2.out.mono (Nat.le_trans hB.out.size hbA.out.size)))
        clear HREP hO hB hbA hb2
        go_wp2_with (at_builtin; refine wpGroBL rfl _ _ rfl HO2.out hM.out rfl rfl (by omega) HB2.out.size ?_; intro A' c' w4 O4 B4; have HO4 := Lib.hid O4; have HB4 := Lib.hid (HB2.out.trans B4); clear O4 B4 HO2 HB2 hM)
        go_roundw
        case rel => exact ⟨u, t + 1, !f, L ++ List.replicate r f, A', c', by omega, by omega, by rw [List.length_append, List.length_replicate]; omega, by rw [List.length_append, List.length_replicate], rfl, by first | rfl | go_num | (congr 1; omega), HW, HO4, HB4⟩
        case measure => simp [intOf]; omega
    · have hE : L = R := (unpU_stop hc m).symm.trans hW0.out
      subst hE
      by_cases h1 : t < s.size
      · have h2 : 256 < L.length := by omega
        have h1i : (t : Int) < s.size := by omega
        clear hW0 hc hm
        have hl2 : 256 < L.length := h2
        have HP := Lib.hid (fun W => implPakNo A L.length c W hl2 (by omega))
        go_wp2_with fail
        refine (HP.out wr).mono ?_
        rintro e w2 ⟨rfl, hb2⟩
        have HB2 := Lib.hid (hB.out.trans (hb2.out.mono hB.out.size))
        clear hb2 HP hO hB
        go_wp2_with fail
        go_ret2
        first | exact ⟨none, 0, rfl, RowW.empty (Nat.le_refl _), HB2⟩ | exact ⟨none, ⟨0, rfl⟩, RowW.empty (Nat.le_refl _), HB2⟩
      · have h1i : ¬ (t : Int) < s.size := by omega
        clear hW0 hc hm
        by_cases hl : L.length ≤ 256
        · have hk2 : ((packU (atB L) L.length) == s.data.toList) = false := by
            have := HK.out
            rw [decide_eq_true hl, Bool.true_and] at this
            exact this
          have HP := Lib.hid (fun W h => implPak A L.length c (atB L) W h hO.out.cap hl)
          have hne := text_neU hk2
          clear hk2 HK
          generalize (⟨(packU (atB L) L.length).toArray⟩ : ByteArray) = X at *
          go_wp2_with fail
          refine (HP.out wr hO.out.rowW.toRow).mono ?_
          rintro e w2 ⟨rfl, hb2⟩
          have HB2 := Lib.hid (hB.out.trans (hb2.out.mono hB.out.size))
          clear hb2 HP hO hB
          go_wp2_with fail
          go_ret2
          first | exact ⟨none, 0, rfl, RowW.empty (Nat.le_refl _), HB2⟩ | exact ⟨none, ⟨0, rfl⟩, RowW.empty (Nat.le_refl _), HB2⟩
        · have hl2 : 256 < L.length := by omega
          have HP := Lib.hid (fun W => implPakNo A L.length c W hl2 (by omega))
          go_wp2_with fail
          refine (HP.out wr).mono ?_
          rintro e w2 ⟨rfl, hb2⟩
          have HB2 := Lib.hid (hB.out.trans (hb2.out.mono hB.out.size))
          clear hb2 HP hO hB
          go_wp2_with fail
          go_ret2
          first | exact ⟨none, 0, rfl, RowW.empty (Nat.le_refl _), HB2⟩ | exact ⟨none, ⟨0, rfl⟩, RowW.empty (Nat.le_refl _), HB2⟩

theorem specUnB (s : ByteArray) (hs : s.size ≤ 1048576) (w : World) (n : Nat) (p : Nat → Bool) (b : Bool) (h : ∀ W, Calls Try.prog 64 #[.string s] W fun e w' => ∃ A c, e = .returned (.tuple #[.slice A n c, .bool b]) ∧ Hid (RowW w' W.heap.size w'.heap.size A n (bo p)) ∧ Hid (Below W.heap.size W w')) :
    Calls Try.prog 24 #[.string s] w fun e w' => ∃ A c, e = .returned (.tuple #[.slice A n c, .bool b]) ∧ Hid (RowW w' w.heap.size w'.heap.size A n (bo p)) ∧ Hid (Below w.heap.size w w') := by
  have H := Lib.hid (h w)
  clear h
  go_enter Try.func24, Try.ntmps24
  go_wp2_with fail
  refine H.out.mono ?_
  rintro e w1 ⟨A, c, rfl, hR, hB⟩
  go_wp2_with fail
  go_ret2
  first | exact ⟨A, c, rfl, hR, hB⟩ | exact ⟨A, ⟨c, rfl⟩, hR, hB⟩
theorem unpBoth (s : ByteArray) (hs : s.size ≤ 1048576) : ∃ (b : Bool) (fn : Nat) (ff : Nat → Bool), fn ≤ 1048576 ∧
    (∀ (W : World), Calls Try.prog 24 #[.string s] W fun e w' => ∃ A c, e = .returned (.tuple #[.slice A fn c, .bool b]) ∧ Hid (RowW w' W.heap.size w'.heap.size A fn (bo ff)) ∧ Hid (Below W.heap.size W w')) ∧
    (∀ (W : World), Calls Try.prog 25 #[.string s] W fun e w' => ∃ A c, e = .returned (.tuple #[.slice A fn c, .bool b]) ∧ Hid (RowW w' W.heap.size w'.heap.size A fn (bo ff)) ∧ Hid (Below W.heap.size W w')) := by
  cases hk : okU s with
  | true =>
    have hl : (unpL s).length ≤ 256 := of_decide_eq_true (Bool.and_eq_true _ _ ▸ (show (decide ((unpL s).length ≤ 256) && ((packU (atB (unpL s)) (unpL s).length) == s.data.toList)) = true from hk)).1
    exact ⟨true, (unpL s).length, atB (unpL s), by omega, fun W => specUnB s hs W _ _ _ fun W => specUnYes s hs W hk, fun W => implUnYes s hs W hk⟩
  | false => exact ⟨false, 0, fun _ => false, by omega, fun W => specUnB s hs W _ _ _ fun W => specUnNo s hs W hk, fun W => implUnNo s hs W hk⟩

end Go.Proofs.Ytjojhklbikgfoaa
