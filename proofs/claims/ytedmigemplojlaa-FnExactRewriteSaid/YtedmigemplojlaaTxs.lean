/-
  What is proved here: the map of what letters become, as a walk. Conditions: letters of one byte each; at most 1048576 rules.
-/
import Derived.Test.YtedmigemplojlaaRwB
import Derived.Maps.OwnSet
import Derived.Maps.StringElems
import Derived.WalkArith
namespace Go.Proofs.Ytedmigemplojlaa
open Go.RowKit Go.Maps

theorem lawK : Keyed Try.prog 21 := int_keyed Try.underlying21
theorem zeroS (w : World) : (zeroValue 9).run Try.prog w = .ok (.string ⟨#[]⟩) w := by kernel_rfl

/-- the letter's number -/
def lcode (a : ByteArray) : Nat := (a.data.getD 0 0).toNat
theorem lcode_eq {a : ByteArray} (h : 0 < a.size) : (a[0]'h).toNat = lcode a := by
  unfold lcode
  rw [Array.getD_eq_getD_getElem?, Array.getElem?_eq_getElem (show 0 < a.data.size from h)]
  rfl
theorem lcode_lt (a : ByteArray) : lcode a < 256 := by unfold lcode; exact UInt8.toNat_lt _

/-- the map after k rules -/
def Dt (ss : List ByteArray) : Nat → DataW Unit
  | 0 => .map []
  | k + 1 => (Dt ss k).put (.int .i32 (lcode (ltr ss k))) (.lit (.string (txt ss k).data.toList))

theorem ownsMap_heap {H : Type} {w w' : World} {P : Program} {k : TypeId} {R : Value → Option (DataW H × List MemPlace)} {b n : Nat} {D : DataW H} (h : w.ownsMap P k R b n D) (e : w'.heap[b]? = w.heap[b]?) : w'.ownsMap P k R b n D := by
  obtain ⟨es, clock, hb, F, hs, hD⟩ := h
  exact ⟨es, clock, e.trans hb, F, hs, hD⟩
theorem ownsMap_below {H : Type} {w w' : World} {P : Program} {k : TypeId} {R : Value → Option (DataW H × List MemPlace)} {b n : Nat} {D : DataW H} (h : w.ownsMap P k R b n D) (hb : Below w.heap.size w w') : w'.ownsMap P k R b n D :=
  ownsMap_heap h (hb.block b h.lt)

theorem letterOf_n (a b : ByteArray) (h1 : a.size = 1) (w : World) :
    Calls Try.prog 87 #[.agg #[.string a, .string b]] w fun e w' => e = .returned (.int .i32 (lcode a)) ∧ Below w.heap.size w w' :=
  (letterOf_is a b (by omega) w).mono fun e w' ⟨he, hb⟩ => ⟨by rw [he, lcode_eq], hb⟩

/-- a map of what letters become -/
def TxM (w : World) (B n : Nat) (ss : List ByteArray) : Prop := w.ownsMap Try.prog 21 (plainElem Try.prog 9) B n (Dt ss n)

set_option maxHeartbeats 8000000 in
set_option maxRecDepth 1000000 in
theorem textsOf_is (n c : Nat) (A : Option Addr) (st : ByteArray) (ss : List ByteArray) (w : World) (hr : RowS w w.heap.size A ss) (hn : ss.length = 2 * n) (hN : n ≤ 1048576) (h1 : ∀ k, k < n → (ltr ss k).size = 1) (hS : ∀ k, (txt ss k).size ≤ 1048576) :
    Calls Try.prog 71 #[.agg #[.string st, .slice A n c]] w fun e w' => ∃ B, e = .returned (.map (some B)) ∧ w.heap.size ≤ B ∧ Hid (TxM w' B n ss) ∧ Hid (Below w.heap.size w w') := by
  have hmm : ∀ (m : Nat) (W : World), (Instr.makeMap 84 (some (.int .i64 m))).run Try.prog W = .ok (.map (some W.heap.size)) (W.alloc (.map #[] 0)) := fun m W => by
    simp [Instr.makeMap, run_underlying Try.underlying84]
    rfl
  have HR := Lib.hid hr
  have HN := Lib.hid hn
  have H1 := Lib.hid h1
  have HS := Lib.hid hS
  clear hr hn h1 hS
  go_enter Try.func71, Try.ntmps71
  have bb1 : Below w.heap.size w (w.alloc (.cells #[.string st, .slice A n c] 30)) := (Below.refl _ _).alloc (Nat.le_refl _) _
  have hx1 : (w.alloc (.cells #[.string st, .slice A n c] 30)).heap.size = w.heap.size + 1 := by simp
  have HO : Hid (TxM ((w.alloc (.cells #[.string st, .slice A n c] 30)).alloc (.map #[] 0)) (w.heap.size + 1) 0 ss) := by
    show TxM _ _ _ _
    rw [← hx1]
    exact World.ownsMap_made _ _ _ _
  have HB : Hid (Below w.heap.size w ((w.alloc (.cells #[.string st, .slice A n c] 30)).alloc (.map #[] 0))) := bb1.alloc bb1.size _
  clear bb1 hx1
  go_wp2_with fail
  generalize (w.alloc (.cells #[.string st, .slice A n c] 30)).alloc (.map #[] 0) = a0 at *
  clear hmm
  generalize hX : w.heap.size = X at *
  have HX := Lib.hid hX
  clear hX
  go_loopw [13] (fun i wr => ∃ k : Nat, k ≤ n ∧ i = .int .i64 k ∧ Hid (TxM wr (X + 1) k ss) ∧ Hid (Below X w wr)) (fun i _ => n - (intOf i).toNat)
  case atStart => exact ⟨0, Nat.zero_le _, rfl, HO, HB⟩
  case round =>
    obtain ⟨k, hk, rfl, hO, hB⟩ := hrel
    by_cases hlt : k < n
    · obtain ⟨b, off, rfl, hb, hc, hd⟩ := HR.out.pair HN.out hlt
      rw [← hB.out.cell (p := ⟨b, _, none⟩) hb] at hc hd
      have hc2 : wr.cell? ⟨b, off + k * 2, none⟩ = some (.string (ltr ss k)) := hc
      have hd2 : wr.cell? ⟨b, off + k * 2 + 1, none⟩ = some (.string (txt ss k)) := hd
      clear hc hd
      have y0 : Below wr.heap.size wr (wr.alloc (.cells #[.string (ltr ss k), .string (txt ss k)] 43)) := (Below.refl _ _).alloc (Nat.le_refl _) _
      have e0 : (wr.alloc (.cells #[.string (ltr ss k), .string (txt ss k)] 43)).cell? ⟨wr.heap.size, 0, none⟩ = some (.string (ltr ss k)) := by simp [World.cell?, World.alloc, -World.alloc_eq]
      have e1 : (wr.alloc (.cells #[.string (ltr ss k), .string (txt ss k)] 43)).cell? ⟨wr.heap.size, 1, none⟩ = some (.string (txt ss k)) := by simp [World.cell?, World.alloc, -World.alloc_eq]
      have hy : wr.heap.size < (wr.alloc (.cells #[.string (ltr ss k), .string (txt ss k)] 43)).heap.size := by simp
      have hO2 := Lib.hid (ownsMap_below hO.out y0)
      have hB2 : Hid (Below X w (wr.alloc (.cells #[.string (ltr ss k), .string (txt ss k)] 43))) := hB.out.trans (y0.mono (by rw [← HX.out]; exact hB.out.size))
      have E0 := Lib.hid e0
      have E1 := Lib.hid e1
      clear y0 hO hB e0 e1
      go_wp2_with fail
      generalize wr.alloc (.cells #[.string (ltr ss k), .string (txt ss k)] 43) = a1 at *
      generalize wr.heap.size = y at *
      have e0 := E0.out
      have e1 := E1.out
      have hkey : keyOf Try.prog 21 (.int .i32 (lcode (ltr ss k))) = some (.int .i32 (lcode (ltr ss k))) := keyOf_int_mk Try.underlying21 (WalkArith.wf_i32 (by have := lcode_lt (ltr ss k); omega))
      have HK := Lib.hid hkey
      have HZ := Lib.hid (plainElem_string (H := Unit) (P := Try.prog) Try.underlying9 (s := txt ss k) (by have := HS.out k; unfold maxLen; omega))
      have h11 := H1.out k hlt
      have hO3 : Hid (TxM a1.drew (X + 1) k ss) := hO2
      have hB3 : Hid (Below X w a1.drew) := hB2.out.drew
      have hX3 : Hid (X ≤ a1.drew.heap.size) := by show X ≤ a1.drew.heap.size; rw [← HX.out]; exact hB3.out.size
      clear hkey E0 E1 hc2 hd2
      go_region_with (go_at_call 87; refine (letterOf_n _ _ h11 _).mono ?_; rintro e w5 ⟨rfl, hb5⟩; have f1 : w5.cell? ⟨y, 1, none⟩ = some (.string (txt ss k)) := (hb5.cell (p := ⟨y, 1, none⟩) hy).trans e1; obtain ⟨w6, hrun, own6, hg6⟩ := World.ownsMap.update (ownsMap_below hO3.out hb5) lawK Try.underlying84 (by unfold maxLen; omega) HK.out HZ.out)
      all_goals
        have S1 : Hid (TxM w6 (X + 1) (k + 1) ss) := own6
        have S2 : Hid (Below X w w6) := (hB3.out.trans (hb5.mono hX3.out)).grown hg6 (Nat.le_trans hX3.out hb5.size) (fun j hj => by cases hj; exact Nat.le_succ _)
        clear hrun own6 hg6 hb5 f1 e0 e1
        go_wp2_with fail
        go_roundw
        case rel => exact ⟨k + 1, by omega, by go_num, S1, S2⟩
        case measure => simp [intOf]; omega
    · have he : k = n := by omega
      have HE := Lib.hid he
      clear he
      go_wp2_with fail
      go_ret
      exact ⟨X + 1, rfl, by rw [HX.out]; omega, by rw [← HE.out]; exact hO, by rw [HX.out]; exact hB⟩

end Go.Proofs.Ytedmigemplojlaa
