/-
  What is proved here: the runs of cells as the program packs them, as walks; one answer of both packages. Conditions: at most 1048576 cells, each with room for itself.
-/
import Derived.Test.YteojpmnnpinpeaaFpi
namespace Go.Proofs.Yteojpmnnpinpeaa
open Go.RowKit
set_option linter.unusedVariables false

/-- an operation that appends bytes -/
theorem isApp {ops : Array Oper} {rest : List Oper} {o : Oper} {a : Act} {Q : Exit → Act → World → Prop} {w : World} (s x : Operand)
    (ho : o.op = .call { callee := .builtin .append, args := #[s, x], argTypes := #[212, 212] }) (h : wpList Try.prog ops Q (o :: rest) a w) : wpList Try.prog ops Q (o :: rest) a w := h
theorem lt_some {w : World} {B n : Nat} {A : Option Addr} {V : Nat → Value} (h : RowV w B A n V) (h0 : 0 < n) : ∃ b off, A = some ⟨b, off, none⟩ ∧ b < B ∧ ∀ j, j < n → w.cell? ⟨b, off + j, none⟩ = some (V j) := h h0
/-- what is left of a row, cut at a place -/
theorem cutV {w : World} {B n R c b off a : Nat} {p : Nat → Bool} (h : RowV w B (some ⟨b, off, none⟩) n (bo fun j => p (a + j))) (hR : R ≤ n) (hc : n ≤ c) : RowV w B (if c = R then some ⟨b, off, none⟩ else some ⟨b, off + R, none⟩) (n - R) (bo fun j => p (a + R + j)) := by
  intro h0
  have hne : ¬ c = R := by omega
  obtain ⟨b', off', e, hb, hcell⟩ := h (by omega)
  injection e with e
  injection e with e1 e2 _
  subst e1 e2
  rw [if_neg hne]
  refine ⟨b, off + R, rfl, hb, fun j hj => ?_⟩
  have := hcell (R + j) (by omega)
  rw [Nat.add_assoc, this]
  show some (Value.bool (p (a + (R + j)))) = some (Value.bool (p (a + R + j)))
  rw [Nat.add_assoc]

set_option maxHeartbeats 20000000 in
set_option maxRecDepth 100000 in
theorem implPak (A : Option Addr) (n c : Nat) (p : Nat → Bool) (w : World) (hr : RowV w w.heap.size A n (bo p)) (hc : n ≤ c) (hn : n ≤ 256) :
    Calls Try.prog 186 #[.slice A n c] w fun e w' => e = .returned (.tuple #[.string ⟨(packU p n).toArray⟩, .bool true]) ∧ Hid (Below w.heap.size w w') := by
  have HR0 : Hid (RowV w w.heap.size A n (bo fun j => p (0 + j))) := hr.ext fun j _ => by show Value.bool (p j) = Value.bool (p (0 + j)); rw [Nat.zero_add]
  have H0 : Hid (GroU w w.heap.size [] none 0) := GroU.nil _ _
  have HB0 : Hid (Below w.heap.size w w) := Below.refl _ _
  clear hr
  go_enter Try.func186, Try.ntmps186
  go_wp2
  go_loopw [0, 4, 5] (fun s o f wr => ∃ (k : Nat) (A' : Option Addr) (c' a m : Nat) (fl : Bool) (L : List UInt8) (Ac : Option Addr) (cc : Nat), Hid (pIt p n k = ⟨a, fl, L⟩) ∧ Hid (a = n ∨ k + pMu p n a fl ≤ 2 * n + 1) ∧ a + m = n ∧ s = .slice Ac m cc ∧ m ≤ cc ∧ o = .slice A' L.length c' ∧ f = .bool fl ∧ Hid (GroU wr w.heap.size L A' c') ∧ Hid (Below w.heap.size w wr) ∧ Hid (RowV wr w.heap.size Ac m (bo fun j => p (a + j)))) (fun s _ f _ => pMu p n (n - lOf s) (bOf f))
  case atStart => exact ⟨0, _, 0, 0, n, false, [], A, c, rfl, pIt_mu p n 0, by omega, rfl, hc, rfl, rfl, H0, HB0, HR0⟩
  case round =>
    obtain ⟨k, A', c', a, m, fl, L, Ac, cc, hI, hM, ham, rfl, hcc, rfl, rfl, hO, hB, hR2⟩ := hrel
    have hsz : Hid (w.heap.size ≤ wr.heap.size) := hB.out.size
    by_cases hlt : 0 < m
    · have hLl := pIt_len p n k
      rw [hI.out] at hLl
      change L.length ≤ 2 * k at hLl
      have hk2 : L.length ≤ 1048576 := by
        rcases hM.out with h | h <;> omega
      have han : n - a = m := by omega
      obtain ⟨R, hRe⟩ : ∃ R, R = runB p fl a m := ⟨_, rfl⟩
      have hR := runB_le p fl m a
      have hmu0 := pMu_lt (p := p) (f := fl) (n := n) (t := a) (by omega)
      have hnx : pIt p n (k + 1) = _ := pIt_go (p := p) (n := n) (k := k) (by rw [hI.out]; show a < n; omega)
      rw [hI.out] at hnx
      dsimp only at hnx
      rw [han] at hnx hmu0
      have hix : idxB (fun j => p (a + j)) (!fl) m = if R < m then (R : Int) else -1 := by
        unfold idxB
        rw [Bool.not_not, runB_shift, Nat.add_zero, ← hRe]
      rw [← hRe] at hR hmu0 hnx
      have hmu : Hid (pMu p n (n - (m - R)) (!fl) < pMu p n (n - m) fl) := by
        show _ < _
        rw [show n - (m - R) = a + R by omega, show n - m = a by omega]; exact hmu0
      have HNX := Lib.hid hnx
      have HM2 := Lib.hid (pIt_mu p n (k + 1))
      rw [hnx] at HM2
      dsimp only at HM2
      have E : Hid (encR R = if R < 255 then [UInt8.ofNat R] else [255, UInt8.ofNat (R - 255)]) := rfl
      have HIX := Lib.hid (fun (W : World) (hb : Below wr.heap.size wr W) => idx_is Ac m cc (fun j => p (a + j)) (!fl) W w.heap.size (hR2.out.below (hb.mono hsz.out)) (by omega))
      obtain ⟨b1, off, rfl, hb1, _⟩ := hR2.out hlt
      have HR2 := Lib.hid (cutV hR2.out hR hcc)
      clear hnx hRe hLl hmu0 hR2
      by_cases hRm : R < m
      · have HRX : Hid (idxB (fun j => p (a + j)) (!fl) m = (R : Int)) := Lib.hid (hix.trans (if_pos hRm))
        clear hix
        have hcR : ¬ cc = R := by omega
        rw [if_neg hcR] at HR2
        have hcR2 : ¬ (cc : Int) = (R : Int) := by omega
        by_cases h255 : R < 255
        · have E2 : Hid (encR R = [UInt8.ofNat R]) := Lib.hid (E.out.trans (if_pos h255))
          rw [E2.out] at HNX
          all_goals
            go_wp2_with (first | (go_at_call 244; refine (HIX.out _ (Below.refl _ _)).mono ?_; rintro e w' ⟨rfl, rfl⟩; rw [HRX.out]) | (at_builtin; refine isApp _ _ rfl ?_; refine wpGroU rfl _ _ rfl (w0 := wr) (y := UInt8.ofNat R) hO.out (by rw [u8n (by omega)]) rfl rfl hk2 hsz.out ?_; intro g2 c2 w4 O4 B4; have HO4 := Lib.hid O4; have HB4 := Lib.hid (hB.out.trans B4); have HRW := Lib.hid (HR2.out.below B4); clear O4 B4))
            go_roundw
            case rel =>
              refine ⟨k + 1, _, _, _, _, _, _, _, _, HNX, HM2, ?_, rfl, ?_, ?_, rfl, HO4, HB4, ?_⟩
              · omega
              · omega
              · rw [List.length_append]; rfl
              · first | exact HRW | (have h := HRW.out; rw [Nat.sub_self] at h; exact h)
            case measure => first | exact hmu.out | (have h := hmu.out; rw [Nat.sub_self] at h; exact h)
        · have E2 : Hid (encR R = [255, UInt8.ofNat (R - 255)]) := Lib.hid (E.out.trans (if_neg h255))
          have h255b : 255 ≤ R := by omega
          rw [E2.out] at HNX
          all_goals
            go_wp2_with (first | (go_at_call 244; refine (HIX.out _ (Below.refl _ _)).mono ?_; rintro e w' ⟨rfl, rfl⟩; rw [HRX.out]) | (at_builtin; refine isApp _ _ rfl ?_; refine wpGroU2 rfl _ _ rfl (w0 := wr) (y := 255) (z := UInt8.ofNat (R - 255)) hO.out (by rw [u8t h255b (by omega), u8c]) rfl rfl hk2 hsz.out ?_; intro g2 c2 w4 O4 B4; have HO4 := Lib.hid O4; have HB4 := Lib.hid (hB.out.trans B4); have HRW := Lib.hid (HR2.out.below B4); clear O4 B4))
            go_roundw
            case rel =>
              refine ⟨k + 1, _, _, _, _, _, _, _, _, HNX, HM2, ?_, rfl, ?_, ?_, rfl, HO4, HB4, ?_⟩
              · omega
              · omega
              · rw [List.length_append]; rfl
              · first | exact HRW | (have h := HRW.out; rw [Nat.sub_self] at h; exact h)
            case measure => first | exact hmu.out | (have h := hmu.out; rw [Nat.sub_self] at h; exact h)
      · have HRX : Hid (idxB (fun j => p (a + j)) (!fl) m = -1) := Lib.hid (hix.trans (if_neg hRm))
        obtain rfl : R = m := by omega
        clear hix
        by_cases hcR : cc = R
        · rw [if_pos hcR] at HR2
          obtain rfl : R = cc := hcR.symm
          clear hcR
          by_cases h255 : R < 255
          · have E2 : Hid (encR R = [UInt8.ofNat R]) := Lib.hid (E.out.trans (if_pos h255))
            rw [E2.out] at HNX
            all_goals
              go_wp2_with (first | (go_at_call 244; refine (HIX.out _ (Below.refl _ _)).mono ?_; rintro e w' ⟨rfl, rfl⟩; rw [HRX.out]) | (at_builtin; refine isApp _ _ rfl ?_; refine wpGroU rfl _ _ rfl (w0 := wr) (y := UInt8.ofNat R) hO.out (by rw [u8n (by omega)]) rfl rfl hk2 hsz.out ?_; intro g2 c2 w4 O4 B4; have HO4 := Lib.hid O4; have HB4 := Lib.hid (hB.out.trans B4); have HRW := Lib.hid (HR2.out.below B4); clear O4 B4))
              go_roundw
              case rel =>
                refine ⟨k + 1, _, _, _, _, _, _, _, _, HNX, HM2, ?_, rfl, ?_, ?_, rfl, HO4, HB4, ?_⟩
                · omega
                · omega
                · rw [List.length_append]; rfl
                · first | exact HRW | (have h := HRW.out; rw [Nat.sub_self] at h; exact h)
              case measure => first | exact hmu.out | (have h := hmu.out; rw [Nat.sub_self] at h; exact h)
          · have E2 : Hid (encR R = [255, UInt8.ofNat (R - 255)]) := Lib.hid (E.out.trans (if_neg h255))
            have h255b : 255 ≤ R := by omega
            rw [E2.out] at HNX
            all_goals
              go_wp2_with (first | (go_at_call 244; refine (HIX.out _ (Below.refl _ _)).mono ?_; rintro e w' ⟨rfl, rfl⟩; rw [HRX.out]) | (at_builtin; refine isApp _ _ rfl ?_; refine wpGroU2 rfl _ _ rfl (w0 := wr) (y := 255) (z := UInt8.ofNat (R - 255)) hO.out (by rw [u8t h255b (by omega), u8c]) rfl rfl hk2 hsz.out ?_; intro g2 c2 w4 O4 B4; have HO4 := Lib.hid O4; have HB4 := Lib.hid (hB.out.trans B4); have HRW := Lib.hid (HR2.out.below B4); clear O4 B4))
              go_roundw
              case rel =>
                refine ⟨k + 1, _, _, _, _, _, _, _, _, HNX, HM2, ?_, rfl, ?_, ?_, rfl, HO4, HB4, ?_⟩
                · omega
                · omega
                · rw [List.length_append]; rfl
                · first | exact HRW | (have h := HRW.out; rw [Nat.sub_self] at h; exact h)
              case measure => first | exact hmu.out | (have h := hmu.out; rw [Nat.sub_self] at h; exact h)
        · rw [if_neg hcR] at HR2
          by_cases h255 : R < 255
          · have E2 : Hid (encR R = [UInt8.ofNat R]) := Lib.hid (E.out.trans (if_pos h255))
            rw [E2.out] at HNX
            all_goals
              go_wp2_with (first | (go_at_call 244; refine (HIX.out _ (Below.refl _ _)).mono ?_; rintro e w' ⟨rfl, rfl⟩; rw [HRX.out]) | (at_builtin; refine isApp _ _ rfl ?_; refine wpGroU rfl _ _ rfl (w0 := wr) (y := UInt8.ofNat R) hO.out (by rw [u8n (by omega)]) rfl rfl hk2 hsz.out ?_; intro g2 c2 w4 O4 B4; have HO4 := Lib.hid O4; have HB4 := Lib.hid (hB.out.trans B4); have HRW := Lib.hid (HR2.out.below B4); clear O4 B4))
              go_roundw
              case rel =>
                refine ⟨k + 1, _, _, _, _, _, _, _, _, HNX, HM2, ?_, rfl, ?_, ?_, rfl, HO4, HB4, ?_⟩
                · omega
                · omega
                · rw [List.length_append]; rfl
                · first | exact HRW | (have h := HRW.out; rw [Nat.sub_self] at h; exact h)
              case measure => first | exact hmu.out | (have h := hmu.out; rw [Nat.sub_self] at h; exact h)
          · have E2 : Hid (encR R = [255, UInt8.ofNat (R - 255)]) := Lib.hid (E.out.trans (if_neg h255))
            have h255b : 255 ≤ R := by omega
            rw [E2.out] at HNX
            all_goals
              go_wp2_with (first | (go_at_call 244; refine (HIX.out _ (Below.refl _ _)).mono ?_; rintro e w' ⟨rfl, rfl⟩; rw [HRX.out]) | (at_builtin; refine isApp _ _ rfl ?_; refine wpGroU2 rfl _ _ rfl (w0 := wr) (y := 255) (z := UInt8.ofNat (R - 255)) hO.out (by rw [u8t h255b (by omega), u8c]) rfl rfl hk2 hsz.out ?_; intro g2 c2 w4 O4 B4; have HO4 := Lib.hid O4; have HB4 := Lib.hid (hB.out.trans B4); have HRW := Lib.hid (HR2.out.below B4); clear O4 B4))
              go_roundw
              case rel =>
                refine ⟨k + 1, _, _, _, _, _, _, _, _, HNX, HM2, ?_, rfl, ?_, ?_, rfl, HO4, HB4, ?_⟩
                · omega
                · omega
                · rw [List.length_append]; rfl
                · first | exact HRW | (have h := HRW.out; rw [Nat.sub_self] at h; exact h)
              case measure => first | exact hmu.out | (have h := hmu.out; rw [Nat.sub_self] at h; exact h)
    · have ht := hO.out.text
      have HL : Hid (L = packU p n) := by
        have := packU_is (p := p) (n := n) (k := k) (by rw [hI.out]; show a = n; omega)
        rw [hI.out] at this
        exact this
      obtain rfl : m = 0 := by omega
      go_wp2
      go_ret2
      have e := HL.out
      subst e
      exact ⟨rfl, hB⟩

end Go.Proofs.Yteojpmnnpinpeaa
