/-
  What is proved here: the texts of lists of integers, and the law ListText, as walks. Conditions: the list is one that a machine can hold; the library's table holds the powers of ten.
-/
import Derived.Test.YtegbclfjcckglaaDoorTxt
import Derived.Test.YtegbclfjcckglaaDoorOpenI
namespace Go.Proofs.YtegbclfjcckglaaDoor
open Go.RowKit

/-- the text of the first of them -/
def strTo (zs : List Int) (k : Nat) : ByteArray := ⟨(joinI (zs.take k)).toArray⟩

theorem add_comma (z : Int) (hz : okV z) (W : World) : (Op.stringOp .add ⟨#[44]⟩ ⟨(Lib.itoa z).toArray⟩).run Tryd.prog W = .ok (.string ⟨(44 :: Lib.itoa z).toArray⟩) W := by
  have h := itoa_short hz
  rw [run_string_add_sum W _ _ (by show (#[(44 : UInt8)]).size + (Lib.itoa z).toArray.size ≤ _; simp; omega)]
  congr 2

theorem add_next (zs : List Int) (k : Nat) (h0 : 0 < k) (h : k < zs.length) (hz : ∀ z ∈ zs, okV z) (h64 : zs.length ≤ 64) (W : World) :
    (Op.stringOp .add (strTo zs k) ⟨(44 :: Lib.itoa (atI zs k)).toArray⟩).run Tryd.prog W = .ok (.string (strTo zs (k + 1))) W := by
  have h1 := itoa_short (hz _ (at_mem h))
  have h2 := joinI_len (zs.take k) fun z hh => hz z (List.mem_of_mem_take hh)
  have h3 : (zs.take k).length ≤ 64 := Nat.le_trans (List.length_take_le' _ _) h64
  rw [run_string_add_sum W _ _ (by show (joinI (zs.take k)).toArray.size + (44 :: Lib.itoa (atI zs k)).toArray.size ≤ _; simp; omega)]
  congr 2
  unfold strTo
  rw [ByteArray.mk_append_mk, take_snoc zs k h, joinI_snoc _ _ (by intro e; have := congrArg List.length e; rw [List.length_take, List.length_nil] at this; omega)]

theorem specText (A : Option Addr) (c : Nat) (zs : List Int) (w : World) (hr : RowI w w.heap.size A zs) (hz : ∀ z ∈ zs, okV z) (h64 : zs.length ≤ 64) :
    Calls Tryd.prog 82 #[.slice A zs.length c] w fun e w' => e = .returned (.string (if zs.length = 0 then ⟨#[110, 111, 110, 101]⟩ else strTo zs zs.length)) ∧ Below w.heap.size w w' := by
  have HR := Lib.hid hr
  have HZ := Lib.hid hz
  clear hr hz
  by_cases h0 : zs.length = 0
  · have hb0 : ((zs.length : Int) == 0) = true := by simpa using h0
    have H0 := Lib.hid h0
    clear h0
    go_enter Tryd.func82, Tryd.ntmps82
    go_wp2
    go_ret
    exact ⟨by first | rfl | (rw [if_pos H0.out]; rfl), Below.refl _ _⟩
  · have hb0 : ((zs.length : Int) == 0) = false := by simpa using h0
    have hlen : 1 ≤ zs.length := by omega
    have H0 := Lib.hid h0
    obtain ⟨b, off, rfl, hb, hcell⟩ := HR.out (by omega)
    have hc0 := hcell 0 (by omega)
    have hz0 := HZ.out _ (at_mem (zs := zs) (j := 0) (by omega))
    have S1 : Hid ((⟨(Lib.itoa (atI zs 0)).toArray⟩ : ByteArray) = strTo zs 1) := by
      show _ = strTo zs 1
      unfold strTo
      rw [take_snoc zs 0 (by omega), List.take_zero, List.nil_append, joinI_one]
    have HZ0 := Lib.hid hz0
    have HC := Lib.hid hcell
    rw [Nat.add_zero] at hc0
    clear h0 hz0 hcell
    go_enter Tryd.func82, Tryd.ntmps82
    go_wp2_with (go_at_call 114; refine (specDec _ (by have := HZ0.out.1; omega) (by have := HZ0.out.2; omega) _).mono ?_; rintro e w1 ⟨rfl, hb1⟩; have HB1 := Lib.hid hb1; clear hb1; rw [S1.out])
    clear hc0
    go_loopw [3, 4] (fun o i wr => ∃ k : Nat, 1 ≤ k ∧ k ≤ zs.length ∧ i = .int .i64 k ∧ o = .string (strTo zs k) ∧ Hid (Below w.heap.size w wr)) (fun _ i _ => zs.length - (intOf i).toNat)
    case atStart => exact ⟨1, Nat.le_refl _, hlen, rfl, rfl, HB1⟩
    case round =>
      obtain ⟨k, h1k, hk, rfl, rfl, hB⟩ := hrel
      by_cases hlt : k < zs.length
      · have hc := HC.out k hlt
        rw [← hB.out.cell (p := ⟨b, off + k, none⟩) hb] at hc
        have HK := Lib.hid (HZ.out _ (at_mem hlt))
        have hadd1 := add_comma (atI zs k) HK.out
        have hadd2 := add_next zs k (by omega) hlt HZ.out h64
        go_wp2_with (go_at_call 114; refine (specDec _ (by have := HK.out.1; omega) (by have := HK.out.2; omega) _).mono ?_; rintro e w2 ⟨rfl, hb2⟩; have HB2 := Lib.hid hb2; clear hb2)
        go_roundw
        case rel => exact ⟨k + 1, by omega, by omega, by go_num, rfl, hB.out.trans (HB2.out.mono hB.out.size)⟩
        case measure => simp [intOf]; omega
      · have HK : Hid (k = zs.length) := by show k = zs.length; omega
        go_wp2
        go_ret
        exact ⟨by first | rfl | (rw [if_neg H0.out, ← HK.out]; rfl) | (rw [← HK.out]; rfl), hB.out⟩

/-- what both functions give -/
def TPost (zs : List Int) (w : World) (e : Ending) (w' : World) : Prop := e = .returned (.tuple #[.string ⟨(lstT zs).toArray⟩, .bool (lstB zs)]) ∧ Below w.heap.size w w'

theorem tpost_no {zs : List Int} {w w' : World} (h : lstB zs = false) (hb : Below w.heap.size w w') : TPost zs w (.returned (.tuple #[.string ⟨#[]⟩, .bool false])) w' := by
  refine ⟨?_, hb⟩
  unfold lstT
  rw [h]; rfl
theorem tpost_none {zs : List Int} {w w' : World} (h : lstB zs = true) (h0 : zs.length = 0) (hb : Below w.heap.size w w') : TPost zs w (.returned (.tuple #[.string ⟨#[110, 111, 110, 101]⟩, .bool true])) w' := by
  refine ⟨?_, hb⟩
  unfold lstT
  rw [if_pos h, if_pos h0, h]
theorem tpost_yes {zs : List Int} {w w' : World} (h : lstB zs = true) (h0 : ¬ zs.length = 0) (hb : Below w.heap.size w w') : TPost zs w (.returned (.tuple #[.string (strTo zs zs.length), .bool true])) w' := by
  refine ⟨?_, hb⟩
  unfold lstT strTo
  rw [if_pos h, if_neg h0, h, List.take_length]

theorem lstB_parts {zs : List Int} (h : lstB zs = true) : (∀ z ∈ zs, okV z) ∧ zs.length ≤ 64 := by
  unfold lstB at h
  rw [Bool.and_eq_true] at h
  exact ⟨all_mem h.1, of_decide_eq_true h.2⟩

theorem specLT (A : Option Addr) (c : Nat) (zs : List Int) (w : World) (hr : RowI w w.heap.size A zs) (hn : zs.length ≤ 1048576) :
    Calls Tryd.prog 35 #[.slice A zs.length c] w (TPost zs w) := by
  have HR := Lib.hid hr
  clear hr
  cases hb : lstB zs
  · have N := Lib.hid hb
    go_enter Tryd.func35, Tryd.ntmps35
    go_wp2_with (go_at_call 81; refine (specList _ _ zs _ HR.out hn).mono ?_; rintro e w' ⟨rfl, rfl⟩)
    go_ret2
    exact tpost_no N.out (Below.refl _ _)
  · have N := Lib.hid hb
    have HP := Lib.hid (lstB_parts hb)
    by_cases h0 : zs.length = 0
    · have H0 := Lib.hid h0
      clear h0
      go_enter Tryd.func35, Tryd.ntmps35
      go_wp2_with (first | (go_at_call 81; refine (specList _ _ zs _ HR.out hn).mono ?_; rintro e w' ⟨rfl, rfl⟩) | (go_at_call 82; refine (specText _ _ zs _ HR.out HP.out.1 HP.out.2).mono ?_; rw [if_pos H0.out]; rintro e w1 ⟨rfl, hb1⟩; have HB1 := Lib.hid hb1; clear hb1))
      go_ret2
      exact tpost_none N.out H0.out HB1.out
    · have H0 := Lib.hid h0
      clear h0
      go_enter Tryd.func35, Tryd.ntmps35
      go_wp2_with (first | (go_at_call 81; refine (specList _ _ zs _ HR.out hn).mono ?_; rintro e w' ⟨rfl, rfl⟩) | (go_at_call 82; refine (specText _ _ zs _ HR.out HP.out.1 HP.out.2).mono ?_; rw [if_neg H0.out]; rintro e w1 ⟨rfl, hb1⟩; have HB1 := Lib.hid hb1; clear hb1))
      go_ret2
      exact tpost_yes N.out H0.out HB1.out

/-- a block of texts of its own -/
structure SRow (w : World) (G n : Nat) (f : Nat → ByteArray) : Prop where
  size : G < w.heap.size
  cell : ∀ j, j < n → w.cell? ⟨G, j, none⟩ = some (.string (f j))
  free : ∀ j, w.frozen? ⟨G, j, none⟩ = false

theorem info_str : (Tryd.prog.info? 9).map (fun i => (i.zero, i.size, i.bytes)) = some (some (.string ⟨#[]⟩), 1, 16) := by kernel_rfl

theorem sRow_start (w : World) (n : Nat) : SRow (w.alloc (.cells (madeCells #[.string ⟨#[]⟩] n) 9)) w.heap.size n (fun _ => ⟨#[]⟩) := by
  refine ⟨by simp, fun j hj => ?_, fun j => ?_⟩
  · have h : (madeCells #[.string ⟨#[]⟩] n)[j]? = some (.string ⟨#[]⟩) := by simp [madeCells, hj, Nat.mod_one]
    simp [World.cell?, World.alloc, -World.alloc_eq, h]
  · simp [World.frozen?, World.alloc, -World.alloc_eq]
theorem SRow.below {w w' : World} {G n : Nat} {f : Nat → ByteArray} (h : SRow w G n f) (hb : Below w.heap.size w w') : SRow w' G n f :=
  ⟨Nat.lt_of_lt_of_le h.size hb.size, fun j hj => by rw [hb.cell h.size]; exact h.cell j hj, fun j => by rw [hb.frozen h.size]; exact h.free j⟩
theorem SRow.step {w : World} {G n k : Nat} {f g : Nat → ByteArray} {x : ByteArray} (h : SRow w G n f) (_ : k < n) (hg : g = fun j => if j = k then x else f j) : SRow (w.setCell ⟨G, k, none⟩ (.string x)) G n g := by
  subst hg
  refine ⟨by have := h.size; simpa [World.setCell] using this, fun j hj => ?_, fun j => by rw [World.frozen?_setCell]; exact h.free j⟩
  by_cases e : j = k
  · subst e
    rw [World.cell?_setCell_same w _ _ (h.cell j hj), if_pos rfl]
  · rw [World.cell?_setCell_other w _ _ _ (by intro h; injection h with _ h2 _; omega), h.cell j hj, if_neg e]

/-- texts of a list of things -/
def txOf (f : Nat → ByteArray) (k j : Nat) : ByteArray := if j < k then f j else ⟨#[]⟩
theorem txOf_succ (f : Nat → ByteArray) (k : Nat) : txOf f (k + 1) = fun j => if j = k then f k else txOf f k j := by
  funext j
  unfold txOf
  by_cases e : j = k
  · subst e; rw [if_pos (by omega), if_pos rfl]
  · rw [if_neg e]
    by_cases h : j < k
    · rw [if_pos h, if_pos (by omega)]
    · rw [if_neg h, if_neg (by omega)]

def decT (zs : List Int) (j : Nat) : ByteArray := ⟨(Lib.itoa (atI zs j)).toArray⟩

theorem join_texts (zs : List Int) : Lib.join ((zs.map fun z => (⟨(Lib.itoa z).toArray⟩ : ByteArray)).map (·.data.toList)) (⟨#[44]⟩ : ByteArray).data.toList = joinI zs := by
  unfold joinI
  rw [List.map_map]
  rfl

theorem joinDec (A : Option Addr) (c : Nat) (zs : List Int) (w : World) (hr : RowI w w.heap.size A zs) (hz : ∀ z ∈ zs, okV z) (hn : zs.length ≤ 1048576) (hp : Pow w) :
    Calls Tryd.prog 84 #[.slice A zs.length c, .int .i64 64, .string ⟨#[44]⟩, .func (.func 85) #[] #[]] w (TPost zs w) := by
  have HR := Lib.hid hr
  have HZ := Lib.hid hz
  have HP := Lib.hid hp
  have hall : zs.all (fun z => decide (okV z)) = true := by rw [List.all_eq_true]; exact fun z hh => decide_eq_true (hz z hh)
  have hlb : Hid (lstB zs = decide (zs.length ≤ 64)) := by show lstB zs = _; unfold lstB; rw [hall, Bool.true_and]
  clear hr hp hz hall
  by_cases h64 : 64 < zs.length
  · have N : Hid (lstB zs = false) := by show _ = _; rw [hlb.out]; exact decide_eq_false (by omega)
    go_enter Tryd.func84, Tryd.ntmps84
    go_wp2_with fail
    go_ret2
    exact tpost_no N.out (Below.refl _ _)
  have h64' : zs.length ≤ 64 := by omega
  have N : Hid (lstB zs = true) := by show _ = _; rw [hlb.out]; exact decide_eq_true h64'
  have h9 : decide ((64 : Int) < (zs.length : Int)) = false := decide_eq_false (by omega)
  clear h64
  by_cases h0 : zs.length = 0
  · have hb0 : ((zs.length : Int) == 0) = true := by simpa using h0
    have H0 := Lib.hid h0
    clear h0
    go_enter Tryd.func84, Tryd.ntmps84
    go_wp2_with fail
    go_ret2
    exact tpost_none N.out H0.out (Below.refl _ _)
  · have hb0 : ((zs.length : Int) == 0) = false := by simpa using h0
    have H0 := Lib.hid h0
    obtain ⟨b, off, rfl, hb, hcell⟩ := HR.out (by omega)
    have HC := Lib.hid hcell
    obtain ⟨i0, hi, hz0, hz1, hz2⟩ := info_parts info_str
    have hmk := fun W => run_make_rowN (P := Tryd.prog) 44 9 i0 (.string ⟨#[]⟩) Tryd.underlying44 hi hz0 .i64 .i64 zs.length zs.length (Nat.le_refl _) (by rw [hz2]; omega) (by omega) W
    rw [hz1, Nat.mul_one] at hmk
    have C0 : Hid (SRow (w.alloc (.cells (madeCells #[.string ⟨#[]⟩] zs.length) 9)) w.heap.size zs.length (txOf (decT zs) 0)) := by
      have := sRow_start w zs.length
      rwa [show (fun _ => (⟨#[]⟩ : ByteArray)) = txOf (decT zs) 0 from by funext j; simp [txOf]] at this
    have B0 : Hid (Below w.heap.size w (w.alloc (.cells (madeCells #[.string ⟨#[]⟩] zs.length) 9))) := (Below.refl _ _).alloc (Nat.le_refl _) _
    clear hi hz0 hz1 hz2 h0 hcell
    go_enter Tryd.func84, Tryd.ntmps84
    go_wp2_with fail
    clear hmk h9 hb0
    generalize w.alloc (.cells (madeCells #[.string ⟨#[]⟩] zs.length) 9) = w1 at *
    generalize hG : w.heap.size = G at *
    have HG := Lib.hid hG
    clear hG
    go_loopw [25] (fun i wr => ∃ k : Nat, k ≤ zs.length ∧ i = .int .i64 k ∧ Hid (SRow wr G zs.length (txOf (decT zs) k)) ∧ Hid (Below G w wr)) (fun i _ => zs.length - (intOf i).toNat)
    case atStart => exact ⟨0, Nat.zero_le _, rfl, C0, B0⟩
    case round =>
      obtain ⟨k, hk, rfl, hC, hB⟩ := hrel
      by_cases hlt : k < zs.length
      · have hc := HC.out k hlt
        rw [← hB.out.cell (p := ⟨b, off + k, none⟩) hb] at hc
        have HK := Lib.hid (HZ.out _ (at_mem hlt))
        have hPw : Hid (Pow wr) := HP.out.below (by rw [HG.out]; exact hB.out)
        go_wp2_with (go_at_call 85; refine (implDec _ (by have := HK.out.1; omega) (by have := HK.out.2; omega) _ hPw.out).mono ?_; rintro e w2 ⟨rfl, hb2⟩; have HB2 := Lib.hid hb2; have hd := (hC.out.below hb2).cell k hlt; have hf := (hC.out.below hb2).free k; clear hb2)
        have hs := Lib.hid ((hC.out.below HB2.out).step hlt (txOf_succ (decT zs) k))
        have hGw : G ≤ wr.heap.size := Nat.le_of_lt hC.out.size
        have hs2 : Hid (Below G w (w2.setCell ⟨G, k, none⟩ (.string ⟨(Lib.itoa (atI zs k)).toArray⟩))) := (hB.out.trans (HB2.out.mono hGw)).setCell (Nat.le_refl _) _
        clear hd hf hc hC hB
        go_roundw
        case rel => exact ⟨k + 1, by omega, by go_num, hs, hs2⟩
        case measure => simp [intOf]; omega
      · have HK : Hid (k = zs.length) := by show k = zs.length; omega
        have hcl : ∀ (j : Nat) x, (zs.map fun z => (⟨(Lib.itoa z).toArray⟩ : ByteArray))[j]? = some x → wr.cell? ⟨G, 0 + j, none⟩ = some (.string x) := by
          intro j x hx
          rw [List.getElem?_map, Option.map_eq_some_iff] at hx
          obtain ⟨z, hz, rfl⟩ := hx
          obtain ⟨hj, rfl⟩ := List.getElem?_eq_some_iff.1 hz
          rw [Nat.zero_add, hC.out.cell j hj]
          unfold txOf decT
          rw [if_pos (by have := HK.out; omega), show atI zs j = zs[j] by simp [atI, List.getD, hj]]
        have hjl : (Lib.join ((zs.map fun z => (⟨(Lib.itoa z).toArray⟩ : ByteArray)).map (·.data.toList)) (⟨#[44]⟩ : ByteArray).data.toList).length ≤ 140737488355328 := by
          rw [join_texts]
          have := joinI_len zs HZ.out
          omega
        have HJ := Lib.hid (Any.strings_Join Go.Proofs.Tryd.lays156 Go.Proofs.Tryd.Builder_Extra_156 G 0 zs.length (zs.map fun z => (⟨(Lib.itoa z).toArray⟩ : ByteArray)) ⟨#[44]⟩ wr hcl hC.out.size (by simp; omega) (by simp) hjl)
        rw [join_texts, List.length_map] at HJ
        have hGw : Hid (G ≤ wr.heap.size) := Nat.le_of_lt hC.out.size
        clear hcl hjl hC
        go_wp2_with (go_at_call 120; refine HJ.out.mono ?_; rintro e w2 ⟨rfl, hb2⟩; have HB2 := Lib.hid hb2; clear hb2)
        go_ret2
        have := tpost_yes N.out H0.out (by rw [← HG.out] at hB hGw; exact hB.out.trans (HB2.out.mono hGw.out))
        unfold strTo at this
        rw [List.take_length] at this
        exact this

theorem implLT (A : Option Addr) (c : Nat) (zs : List Int) (w : World) (hr : RowI w w.heap.size A zs) (hn : zs.length ≤ 1048576) (hp : Pow w) :
    Calls Tryd.prog 37 #[.slice A zs.length c] w (TPost zs w) := by
  have HR := Lib.hid hr
  have HP := Lib.hid hp
  clear hr hp
  go_enter Tryd.func37, Tryd.ntmps37
  go_wp2
  go_loop [8] (fun i => ∃ k : Nat, k ≤ zs.length ∧ i = .int .i64 k ∧ Hid (valTo zs k)) (fun i => zs.length - (intOf i).toNat)
  case atStart => exact ⟨0, Nat.zero_le _, rfl, fun j hj => absurd hj (Nat.not_lt_zero _)⟩
  case round =>
    obtain ⟨k, hk, rfl, hI⟩ := hrel
    by_cases hlt : k < zs.length
    · obtain ⟨b, off, rfl, hb, hcell⟩ := HR.out (by omega)
      have hc := hcell k hlt
      clear hcell
      by_cases hok : okV (atI zs k)
      · have hdk : decide (okV (atI zs k)) = true := decide_eq_true hok
        have N : Hid (valTo zs (k + 1)) := fun j hj => by
          by_cases e : j = k
          · rw [e]; exact hok
          · exact hI.out j (by omega)
        clear hok hI
        go_wp2_with (go_at_call 83; refine (is_val _ _).mono ?_; rintro e w' ⟨rfl, rfl⟩)
        go_round
        case rel => exact ⟨k + 1, by omega, by go_num, N⟩
        case measure => simp [intOf]; omega
      · have hdk : decide (okV (atI zs k)) = false := decide_eq_false hok
        have N : Hid (lstB zs = false) := by show lstB zs = false; unfold lstB; rw [all_not hlt hok]; rfl
        clear hok hI
        go_wp2_with (go_at_call 83; refine (is_val _ _).mono ?_; rintro e w' ⟨rfl, rfl⟩)
        go_ret2
        exact tpost_no N.out (Below.refl _ _)
    · have HV : Hid (valTo zs zs.length) := (show k = zs.length by omega) ▸ hI.out
      go_wp2_with (go_at_call 84; refine (joinDec _ _ zs _ HR.out (all_mem (valTo_all HV.out)) hn HP.out).mono ?_; rintro e w1 ⟨rfl, hb1⟩; have HB1 := Lib.hid hb1; clear hb1)
      go_ret2
      exact ⟨rfl, HB1.out⟩

theorem lawLT (A : Option Addr) (len c : Nat) (zs : List Int) {w : World} (hl : ListI w A len zs) (hp : Pow w) :
    Calls Tryd.prog 9 #[.slice A len c] w fun e w' => e = .returned (.bool true) ∧ Below w.heap.size w w' := by
  obtain ⟨hsz, hrow, hmax⟩ := hl
  subst hsz
  unfold maxLen at hmax
  by_cases hbig : 1048576 < zs.length
  · clear hrow
    go_enter Tryd.func9, Tryd.ntmps9
    go_wp2
    go_ret
    exact ⟨rfl, Below.refl _ _⟩
  · have hn : zs.length ≤ 1048576 := by omega
    have R := Lib.hid hrow
    have HP := Lib.hid hp
    have B0 : Hid (Below w.heap.size w w) := Below.refl _ _
    clear hrow hbig hmax hp
    go_enter Tryd.func9, Tryd.ntmps9
    go_wp2_with fail
    refine (toI2 A c zs R B0 hn).mono ?_
    rintro e w1 ⟨g1, _, rfl, T1, _, P1, B1⟩
    go_wp2_with fail
    refine (specLT _ _ zs w1 T1.out.row hn).mono ?_
    rintro e w2 ⟨rfl, hb2⟩
    have B2 : Hid (Below w.heap.size w w2) := B1.out.trans (hb2.mono B1.out.size)
    clear T1 P1 B1 B0 hb2
    go_wp2_with fail
    refine (toI2 A c zs R B2 hn).mono ?_
    rintro e w3 ⟨gX, _, rfl, X3, _, P3, B3⟩
    clear P3 B2
    go_wp2_with fail
    refine (implLT _ _ zs w3 X3.out.row hn (HP.out.below B3.out)).mono ?_
    rintro e w4 ⟨rfl, hb4⟩
    have X4 := Lib.hid (X3.out.below hb4)
    have B4 : Hid (Below w.heap.size w w4) := B3.out.trans (hb4.mono B3.out.size)
    clear X3 B3 hb4
    go_wp2_with fail
    refine (toI2 A c zs R B4 hn).mono ?_
    rintro e w5 ⟨g5, _, rfl, T5, _, P5, B5⟩
    have X5 := Lib.hid (X4.out.below P5.out)
    clear X4 P5 B4
    go_wp2_with fail
    refine (eqI _ _ _ _ zs w5 w5.heap.size X5.out.row T5.out.row hn).mono ?_
    rintro e w' ⟨rfl, n4, rfl⟩
    have B6 : Hid (Below w.heap.size w (w5.drewN n4)) := belowN B5.out
    clear X5 T5 B5
    go_wp2_with fail
    go_ret
    exact ⟨rfl, B6.out⟩

end Go.Proofs.YtegbclfjcckglaaDoor
