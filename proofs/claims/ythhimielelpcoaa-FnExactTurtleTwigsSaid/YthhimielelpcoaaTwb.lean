/-
  What is proved here: TurtleTwigs of both packages gives the same, whatever is given. Conditions: a text that a machine can hold.
-/
import Derived.Test.YthhimielelpcoaaTwi
namespace Go.Proofs.Ythhimielelpcoaa
open Flt Go.RowKit
set_option linter.unusedVariables false
set_option linter.unusedSimpArgs false

theorem Ln2.k2p {w0 w' : World} {G b1 b2 c1 c2 : Nat} {L1 L2 : List (Nat × Nat)} {A1 A2 : Option Addr} (h : Ln2 w' G b1 b2 L1 L2 A1 A2 c1 c2) (hb : Below w0.heap.size w0 w') (hG : w0.heap.size ≤ G) : K2P L1 L2 true w0 (.returned (.tuple #[.slice A1 L1.length c1, .slice A2 L2.length c2, .bool true])) w' := by
  have hs := hb.size
  have hna := h.na
  rcases h.l1.own.cases with ⟨rfl, rfl, rfl⟩ | ⟨g1, rfl⟩
  · rcases h.l2.own.cases with ⟨rfl, rfl, rfl⟩ | ⟨g2, rfl⟩
    · exact ⟨none, 0, none, 0, w'.heap.size, w'.heap.size, w'.heap.size, w'.heap.size, rfl, RowCI.empty (Nat.le_refl _), RowCI.empty (Nat.le_refl _), .inl (Nat.le_refl _), hs, hs, hb⟩
    · have hl := h.l2.own.lt _ rfl
      exact ⟨none, 0, some ⟨g2, 0, none⟩, c2, w'.heap.size, w'.heap.size, g2, g2 + 1, rfl, RowCI.empty (Nat.le_refl _), h.l2.own.one, .inr hl.2, hs, Nat.le_trans hG hl.1, hb⟩
  · have hl1 := h.l1.own.lt _ rfl
    rcases h.l2.own.cases with ⟨rfl, rfl, rfl⟩ | ⟨g2, rfl⟩
    · exact ⟨some ⟨g1, 0, none⟩, c1, none, 0, g1, g1 + 1, w'.heap.size, w'.heap.size, rfl, h.l1.own.one, RowCI.empty (Nat.le_refl _), .inl hl1.2, Nat.le_trans hG hl1.1, hs, hb⟩
    · have hl2 := h.l2.own.lt _ rfl
      have hn : g1 ≠ g2 := hna _ _ rfl rfl
      exact ⟨some ⟨g1, 0, none⟩, c1, some ⟨g2, 0, none⟩, c2, g1, g1 + 1, g2, g2 + 1, rfl, h.l1.own.one, h.l2.own.one, by omega, Nat.le_trans hG hl1.1, Nat.le_trans hG hl2.1, hb⟩

theorem twA_lens {PF : Option Nat → OC} {s : ByteArray} {T S : Option Nat} : ∀ j z, twA PF s T S j = some z → z.fro.length = z.to'.length
  | 0, z, h => by injection h with h; subst h; rfl
  | j + 1, z, h => by
    have h2 : (twA PF s T S j).bind (twN PF T S (ltr s j)) = some z := h
    cases h3 : twA PF s T S j with
    | none => rw [h3] at h2; cases h2
    | some z1 =>
      rw [h3] at h2
      have ih := twA_lens j z1 h3
      rcases twN_to h2 with ⟨e1, e2⟩ | ⟨e1, e2⟩
      · rw [e1, e2]; exact ih
      · rw [e1, e2, List.length_append, List.length_append, ih]; rfl

set_option maxHeartbeats 4000000 in
set_option maxRecDepth 1000000 in
theorem implTwg (PF : Option Nat → OC) (hPF : PhF PF) (s : ByteArray) (u v : Nat) (hs : s.size ≤ 9223372036854775807) (w : World) :
    Calls Try.prog 34 #[.string s, .float .f32 u, .float .f32 v] w (K2P (twF PF s (can .f32 u) (can .f32 v)) (twT PF s (can .f32 u) (can .f32 v)) (twOk PF s (can .f32 u) (can .f32 v)) w) := by
  have b1 : Below w.heap.size w (w.alloc (.cells #[.slice none 0 0] 50)) := (Below.refl _ _).alloc (Nat.le_refl _) _
  have s1 : (w.alloc (.cells #[.slice none 0 0] 50)).heap.size = w.heap.size + 1 := by simp
  have q1 : (w.alloc (.cells #[.slice none 0 0] 50)).cell? ⟨w.heap.size, 0, none⟩ = some (.slice none 0 0) := by simp [World.cell?, World.alloc, -World.alloc_eq]
  have f1 : (w.alloc (.cells #[.slice none 0 0] 50)).frozen? ⟨w.heap.size, 0, none⟩ = false := by simp [World.frozen?, World.alloc, -World.alloc_eq]
  obtain ⟨w1, hw1⟩ : ∃ w1, w1 = w.alloc (.cells #[.slice none 0 0] 50) := ⟨_, rfl⟩
  rw [← hw1] at b1 s1 q1 f1
  have b2 : Below w1.heap.size w1 (w1.alloc (.cells #[.slice none 0 0] 50)) := (Below.refl _ _).alloc (Nat.le_refl _) _
  have L2 : Ln2 (w1.alloc (.cells #[.slice none 0 0] 50)) w.heap.size w.heap.size (w.heap.size + 1) [] [] none none 0 0 := by
    rw [← s1]
    exact ⟨⟨(b2.cell (p := ⟨w.heap.size, 0, none⟩) (by rw [s1]; exact Nat.lt_succ_self _)).trans q1, (b2.frozen (p := ⟨w.heap.size, 0, none⟩) (by rw [s1]; exact Nat.lt_succ_self _)).trans f1, GroC.nil _ _, by have := b2.size; omega, fun a ha => (by cases ha)⟩,
      ⟨by simp [World.cell?, World.alloc, -World.alloc_eq], by simp [World.frozen?, World.alloc, -World.alloc_eq], GroC.nil _ _, by simp, fun a ha => (by cases ha)⟩, by omega, fun a ha => (by cases ha), fun a ha => (by cases ha), fun a b ha => (by cases ha)⟩
  obtain ⟨w2, hw2⟩ : ∃ w2, w2 = w1.alloc (.cells #[.slice none 0 0] 50) := ⟨_, rfl⟩
  rw [← hw2] at b2 L2
  have B2 := Lib.hid (b1.trans (b2.mono (by rw [s1]; omega)))
  have HD := Lib.hid (implDrT PF hPF s u v hs w.heap.size (w.heap.size + 1) w.heap.size w2 L2 (Nat.le_refl _) (Nat.le_succ _))
  rw [hw1] at hw2
  clear b1 s1 b2 L2 hw1 hPF q1 f1
  go_enter Try.func34, Try.ntmps34
  go_wp2_with fail
  rw [← hw2]
  clear hw2
  refine HD.out.mono ?_
  rintro e w3 ⟨bb, rfl, hb3, h1, h2⟩
  have B3 := Lib.hid (B2.out.trans hb3.out)
  clear HD B2 hb3
  cases bb
  · have N : Hid (twOk PF s (can .f32 u) (can .f32 v) = false) := h1.out.symm
    clear h1 h2
    go_wp2_with fail
    go_ret3
    rw [N.out]
    exact k2p_no (twF_no N.out) (twT_no N.out) rfl B3.out
  · obtain ⟨L1, L2, A1, A2, c1, c2, hL, e1, e2⟩ := h2.out rfl
    have N : Hid (twOk PF s (can .f32 u) (can .f32 v) = true) := h1.out.symm
    have E1 := Lib.hid e1
    have E2 := Lib.hid e2
    have HL := Lib.hid hL
    have k1 := hL.l1.cell
    have k2 := hL.l2.cell
    clear h1 h2 e1 e2 hL
    go_wp2_with fail
    go_region
    all_goals
      go_wp2_with fail
      go_ret3
      rw [N.out, ← E1.out, ← E2.out]
      exact (HL.out.heap (w' := w3.drew) (Nat.le_refl _) rfl rfl (fun _ _ => rfl) (fun _ _ => rfl)).k2p B3.out.drew (Nat.le_refl _)

theorem twgBoth (s : ByteArray) (u v : Nat) (hs : s.size ≤ 9223372036854775807) : ∃ ys zs b, ys.length ≤ 256 ∧ zs.length ≤ 256 ∧
    (∀ W, Calls Try.prog 33 #[.string s, .float .f32 u, .float .f32 v] W (K2P ys zs b W)) ∧ (∀ W, Calls Try.prog 34 #[.string s, .float .f32 u, .float .f32 v] W (K2P ys zs b W)) := by
  obtain ⟨PF, hPF⟩ := pha_fn
  refine ⟨twF PF s (can .f32 u) (can .f32 v), twT PF s (can .f32 u) (can .f32 v), twOk PF s (can .f32 u) (can .f32 v), ?_, ?_, fun W => specTwg PF hPF s u v hs W, fun W => implTwg PF hPF s u v hs W⟩
  · unfold twF
    split
    · rename_i h
      unfold twOk at h
      split at h
      · simp at h
      · rename_i z hz
        rw [hz]
        show (wrd z.fro).length ≤ 256
        unfold wrd
        rw [List.length_map, twA_lens _ _ hz]
        simp at h
        exact h.2.1.1.2
    · exact Nat.zero_le _
  · unfold twT
    split
    · rename_i h
      unfold twOk at h
      split at h
      · simp at h
      · rename_i z hz
        rw [hz]
        show (wrd z.to').length ≤ 256
        unfold wrd
        rw [List.length_map]
        simp at h
        exact h.2.1.1.2
    · exact Nat.zero_le _
end Go.Proofs.Ythhimielelpcoaa
