/-
  What is proved here: the runs of cells as the model packs them, as walks. Conditions: at most 256 cells.
-/
import Derived.Test.YteojpmnnpinpeaaFpk
namespace Go.Proofs.Yteojpmnnpinpeaa
open Go.RowKit
set_option linter.unusedVariables false

def bOf : Value → Bool
  | .bool b => b
  | _ => false
theorem u8n {r : Nat} (h : r < 256) : ((UInt8.ofNat r).toNat : Int) = (r : Int) := by
  have : (UInt8.ofNat r).toNat = r % 256 := by simp
  rw [this]
  omega
theorem u8t {r : Nat} (h : 255 ≤ r) (g : r ≤ 256) : ((UInt8.ofNat (r - 255)).toNat : Int) = (r : Int) - 255 := by
  rw [u8n (by omega)]
  omega
theorem u8c : ((255 : UInt8).toNat : Int) = 255 := rfl

set_option maxHeartbeats 8000000 in
set_option maxRecDepth 100000 in
theorem specPak (A : Option Addr) (n c : Nat) (p : Nat → Bool) (w : World) (hr : RowV w w.heap.size A n (bo p)) (hn : n ≤ 256) :
    Calls Try.prog 183 #[.slice A n c] w fun e w' => e = .returned (.string ⟨(packU p n).toArray⟩) ∧ Hid (Below w.heap.size w w') := by
  have HR := Lib.hid hr
  have H0 : Hid (GroU (w.alloc (.cells #[] 5)) w.heap.size [] (some ⟨w.heap.size, 0, none⟩) 0) := GroU.lit w (Nat.le_refl _)
  have HB0 : Hid (Below w.heap.size w (w.alloc (.cells #[] 5))) := (Below.refl _ _).alloc (Nat.le_refl _) _
  clear hr
  go_enter Try.func183, Try.ntmps183
  go_wp2
  generalize w.alloc (.cells #[] 5) = b at *
  go_loopw [3, 4, 5] (fun o f t wr => ∃ (k : Nat) (A' : Option Addr) (c' a : Nat) (fl : Bool) (L : List UInt8), Hid (pIt p n k = ⟨a, fl, L⟩) ∧ Hid (a = n ∨ k + pMu p n a fl ≤ 2 * n + 1) ∧ o = .slice A' L.length c' ∧ f = .bool fl ∧ t = .int .i64 a ∧ Hid (GroU wr w.heap.size L A' c') ∧ Hid (Below w.heap.size w wr)) (fun _ f t _ => pMu p n (intOf t).toNat (bOf f))
  case atStart => exact ⟨0, _, 0, 0, false, [], rfl, pIt_mu p n 0, rfl, rfl, rfl, H0, HB0⟩
  case round =>
    obtain ⟨k, A', c', a, fl, L, hI, hM, rfl, rfl, rfl, hO, hB⟩ := hrel
    have hsz : Hid (w.heap.size ≤ wr.heap.size) := hB.out.size
    have hle := pIt_le p n k
    rw [hI.out] at hle
    change a ≤ n at hle
    by_cases hlt : a < n
    · have hLl := pIt_len p n k
      rw [hI.out] at hLl
      change L.length ≤ 2 * k at hLl
      have hk2 : L.length ≤ 1048576 := by
        rcases hM.out with h | h <;> omega
      obtain ⟨R, hRe⟩ : ∃ R, R = runB p fl a (n - a) := ⟨_, rfl⟩
      have hR := runB_le p fl (n - a) a
      have hall := runB_all p fl (n - a) a
      have hend := runB_end p fl (n - a) a
      have hmu := Lib.hid (pMu_lt (p := p) (f := fl) hlt)
      have hnx : pIt p n (k + 1) = _ := pIt_go (p := p) (n := n) (k := k) (by rw [hI.out]; exact hlt)
      rw [hI.out] at hnx
      dsimp only at hnx
      rw [← hRe] at hR hall hend hmu hnx
      have HALL := Lib.hid hall
      have HEND := Lib.hid hend
      have HNX := Lib.hid hnx
      have HM2 := Lib.hid (pIt_mu p n (k + 1))
      rw [hnx] at HM2
      dsimp only at HM2
      obtain ⟨b1, off, rfl, hb, hcell⟩ := (HR.out.below hB.out) (by omega)
      have HCL := Lib.hid hcell
      clear hall hend hnx hRe hcell hLl
      go_wp2
      go_loopw [6] (fun i wq => ∃ j : Nat, j ≤ R ∧ i = .int .i64 j ∧ wr = wq) (fun i _ => R - (intOf i).toNat)
      case atStart => exact ⟨0, Nat.zero_le _, rfl, rfl⟩
      case round =>
        obtain ⟨j, hj, rfl, rfl⟩ := hrel
        obtain ⟨q, hq⟩ : ∃ q, q = a + j := ⟨_, rfl⟩
        have hw : IntKind.i64.wrap ((a : Int) + (j : Int)) = (q : Int) := by rw [show (a : Int) + (j : Int) = (q : Int) by omega]; exact IntWalk.i64_in _ (by omega)
        by_cases hjR : j < R
        · have hc := HCL.out q (by omega)
          unfold bo at hc
          rw [hq, HALL.out j hjR, ← hq] at hc
          have hq2 : q < n := by omega
          have HQ := Lib.hid hq
          clear hq
          cases fl
          all_goals
            go_wp2
            go_roundw
            case rel => exact ⟨j + 1, by omega, by go_num, by first | rfl | trivial⟩
            case measure => simp [intOf]; omega
        · obtain rfl : j = R := by omega
          have E : Hid (encR j = if j < 255 then [UInt8.ofNat j] else [255, UInt8.ofNat (j - 255)]) := rfl
          have hR256 : j ≤ 256 := by omega
          rw [← hq] at HNX HM2 hmu
          have hcq : q < n → wr.cell? ⟨b1, off + q, none⟩ = some (.bool (!fl)) := fun h => by
            have hc := HCL.out q h
            unfold bo at hc
            rw [hq, HEND.out (by omega), ← hq] at hc
            exact hc
          have hqn : ¬ q < n → q = n := fun h => by omega
          clear hq
          by_cases hq2 : q < n
          · have hc := hcq hq2
            clear hcq
            by_cases h255 : j < 255
            · have E2 : Hid (encR j = [UInt8.ofNat j]) := Lib.hid (E.out.trans (if_pos h255))
              rw [E2.out] at HNX
              cases fl
              all_goals
                go_wp2_with (at_builtin; refine wpGroU rfl _ _ rfl (w0 := wr) (y := UInt8.ofNat j) hO.out (by rw [u8n (by omega)]) rfl rfl hk2 hsz.out ?_; intro g2 c2 w4 O4 B4; have HO4 := Lib.hid O4; have HB4 := Lib.hid (hB.out.trans B4); clear O4 B4)
                go_roundw
                case rel => exact ⟨k + 1, _, _, q, _, _, HNX, HM2, by rw [List.length_append]; rfl, rfl, rfl, HO4, HB4⟩
                case measure => exact hmu.out
            · have E2 : Hid (encR j = [255, UInt8.ofNat (j - 255)]) := Lib.hid (E.out.trans (if_neg h255))
              have h255b : 255 ≤ j := by omega
              rw [E2.out] at HNX
              cases fl
              all_goals
                go_wp2_with (at_builtin; refine wpGroU2 rfl _ _ rfl (w0 := wr) (y := 255) (z := UInt8.ofNat (j - 255)) hO.out (by rw [u8t h255b (by omega), u8c]) rfl rfl hk2 hsz.out ?_; intro g2 c2 w4 O4 B4; have HO4 := Lib.hid O4; have HB4 := Lib.hid (hB.out.trans B4); clear O4 B4)
                go_roundw
                case rel => exact ⟨k + 1, _, _, q, _, _, HNX, HM2, by rw [List.length_append]; rfl, rfl, rfl, HO4, HB4⟩
                case measure => exact hmu.out
          · clear hcq
            have hq3 : q = n := hqn hq2
            clear hq2
            clear hqn
            subst hq3
            by_cases h255 : j < 255
            · have E2 : Hid (encR j = [UInt8.ofNat j]) := Lib.hid (E.out.trans (if_pos h255))
              rw [E2.out] at HNX
              cases fl
              all_goals
                go_wp2_with (at_builtin; refine wpGroU rfl _ _ rfl (w0 := wr) (y := UInt8.ofNat j) hO.out (by rw [u8n (by omega)]) rfl rfl hk2 hsz.out ?_; intro g2 c2 w4 O4 B4; have HO4 := Lib.hid O4; have HB4 := Lib.hid (hB.out.trans B4); clear O4 B4)
                go_roundw
                case rel => exact ⟨k + 1, _, _, q, _, _, HNX, HM2, by rw [List.length_append]; rfl, rfl, rfl, HO4, HB4⟩
                case measure => exact hmu.out
            · have E2 : Hid (encR j = [255, UInt8.ofNat (j - 255)]) := Lib.hid (E.out.trans (if_neg h255))
              have h255b : 255 ≤ j := by omega
              rw [E2.out] at HNX
              cases fl
              all_goals
                go_wp2_with (at_builtin; refine wpGroU2 rfl _ _ rfl (w0 := wr) (y := 255) (z := UInt8.ofNat (j - 255)) hO.out (by rw [u8t h255b (by omega), u8c]) rfl rfl hk2 hsz.out ?_; intro g2 c2 w4 O4 B4; have HO4 := Lib.hid O4; have HB4 := Lib.hid (hB.out.trans B4); clear O4 B4)
                go_roundw
                case rel => exact ⟨k + 1, _, _, q, _, _, HNX, HM2, by rw [List.length_append]; rfl, rfl, rfl, HO4, HB4⟩
                case measure => exact hmu.out
    · have ht := hO.out.text
      have HL : Hid (L = packU p n) := by
        have := packU_is (p := p) (n := n) (k := k) (by rw [hI.out]; show a = n; omega)
        rw [hI.out] at this
        exact this
      go_wp2
      go_ret
      have e := HL.out
      subst e
      exact ⟨rfl, hB⟩

end Go.Proofs.Yteojpmnnpinpeaa
