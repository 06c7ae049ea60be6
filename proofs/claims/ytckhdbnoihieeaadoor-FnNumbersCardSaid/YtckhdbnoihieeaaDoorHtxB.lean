/-
  What is proved here: the program's texts of lists of 32-bit numbers, and the law NumbersText, as walks. Conditions: the list is one that a machine can hold; the library's table holds what it lays.
-/
import Derived.Test.YtckhdbnoihieeaaDoorHtx
namespace Go.Proofs.YtckhdbnoihieeaaDoor
open Flt Go.RowKit

/-- a block of texts of its own -/
structure SRowF (w : World) (G n : Nat) (f : Nat → ByteArray) : Prop where
  size : G < w.heap.size
  cell : ∀ j, j < n → w.cell? ⟨G, j, none⟩ = some (.string (f j))
  free : ∀ j, w.frozen? ⟨G, j, none⟩ = false

theorem info_strF : (Tryd.prog.info? 9).map (fun i => (i.zero, i.size, i.bytes)) = some (some (.string ⟨#[]⟩), 1, 16) := by kernel_rfl

theorem sRowF_start (w : World) (n : Nat) : SRowF (w.alloc (.cells (madeCells #[.string ⟨#[]⟩] n) 9)) w.heap.size n (fun _ => ⟨#[]⟩) := by
  refine ⟨by simp, fun j hj => ?_, fun j => ?_⟩
  · have h : (madeCells #[.string ⟨#[]⟩] n)[j]? = some (.string ⟨#[]⟩) := by simp [madeCells, hj, Nat.mod_one]
    simp [World.cell?, World.alloc, -World.alloc_eq, h]
  · simp [World.frozen?, World.alloc, -World.alloc_eq]
theorem SRowF.below {w w' : World} {G n : Nat} {f : Nat → ByteArray} (h : SRowF w G n f) (hb : Below w.heap.size w w') : SRowF w' G n f :=
  ⟨Nat.lt_of_lt_of_le h.size hb.size, fun j hj => by rw [hb.cell h.size]; exact h.cell j hj, fun j => by rw [hb.frozen h.size]; exact h.free j⟩
theorem SRowF.step {w : World} {G n k : Nat} {f g : Nat → ByteArray} {x : ByteArray} (h : SRowF w G n f) (_ : k < n) (hg : g = fun j => if j = k then x else f j) : SRowF (w.setCell ⟨G, k, none⟩ (.string x)) G n g := by
  subst hg
  refine ⟨by have := h.size; simpa [World.setCell] using this, fun j hj => ?_, fun j => by rw [World.frozen?_setCell]; exact h.free j⟩
  by_cases e : j = k
  · subst e
    rw [World.cell?_setCell_same w _ _ (h.cell j hj), if_pos rfl]
  · rw [World.cell?_setCell_other w _ _ _ (by intro h; injection h with _ h2 _; omega), h.cell j hj, if_neg e]

/-- texts of a list of things -/
def txF (f : Nat → ByteArray) (k j : Nat) : ByteArray := if j < k then f j else ⟨#[]⟩
theorem txF_succ (f : Nat → ByteArray) (k : Nat) : txF f (k + 1) = fun j => if j = k then f k else txF f k j := by
  funext j
  unfold txF
  by_cases e : j = k
  · subst e; rw [if_pos (by omega), if_pos rfl]
  · rw [if_neg e]
    by_cases h : j < k
    · rw [if_pos h, if_pos (by omega)]
    · rw [if_neg h, if_neg (by omega)]

def hexT (zs : List Nat) (j : Nat) : ByteArray := ⟨(hexB (at0 zs j)).toArray⟩

theorem join_hex (zs : List Nat) : Lib.join ((zs.map fun z => (⟨(hexB z).toArray⟩ : ByteArray)).map (·.data.toList)) (⟨#[44]⟩ : ByteArray).data.toList = joinH zs := by
  unfold joinH
  rw [List.map_map]
  rfl

theorem numTxt2 (z : Nat) (hz : WF .f32 z) (w : World) (ht : Tz w) : Calls Tryd.prog 47 #[.float .f32 z] w fun e w' => e = .returned (.string ⟨(hexB z).toArray⟩) ∧ Below w.heap.size w w' := numTxt z hz w ht

theorem implNT (A : Option Addr) (c : Nat) (zs : List Nat) (w : World) (hr : RowF w w.heap.size A zs) (hz : AllW zs) (hn : zs.length ≤ 1048576) (hp : Tz w) :
    Calls Tryd.prog 46 #[.slice A zs.length c, .int .i64 256, .string ⟨#[44]⟩, .func (.func 47) #[] #[]] w (NPost zs w) := by
  have HR := Lib.hid hr
  have HZ := Lib.hid hz
  have HP := Lib.hid hp
  clear hr hp hz
  by_cases h64 : 256 < zs.length
  · have N : Hid (ntB zs = false) := by show _ = _; exact decide_eq_false (by omega)
    go_enter Tryd.func46, Tryd.ntmps46
    go_wp2_with fail
    go_ret2
    exact npost_no N.out (Below.refl _ _)
  have h64' : zs.length ≤ 256 := by omega
  have N : Hid (ntB zs = true) := by show _ = _; exact decide_eq_true h64'
  have h9 : decide ((256 : Int) < (zs.length : Int)) = false := decide_eq_false (by omega)
  clear h64
  by_cases h0 : zs.length = 0
  · have hb0 : ((zs.length : Int) == 0) = true := by simpa using h0
    have H0 := Lib.hid h0
    clear h0
    go_enter Tryd.func46, Tryd.ntmps46
    go_wp2_with fail
    go_ret2
    exact npost_none N.out H0.out (Below.refl _ _)
  · have hb0 : ((zs.length : Int) == 0) = false := by simpa using h0
    have H0 := Lib.hid h0
    obtain ⟨b, off, rfl, hb, hcell⟩ := HR.out (by omega)
    have HC := Lib.hid hcell
    obtain ⟨i0, hi, hz0, hz1, hz2⟩ := info_parts info_strF
    have hmk := fun W => run_make_rowF (P := Tryd.prog) 89 9 i0 (.string ⟨#[]⟩) Tryd.underlying89 hi hz0 .i64 .i64 zs.length zs.length (Nat.le_refl _) (by rw [hz2]; omega) (by omega) W
    rw [hz1, Nat.mul_one] at hmk
    have C0 : Hid (SRowF (w.alloc (.cells (madeCells #[.string ⟨#[]⟩] zs.length) 9)) w.heap.size zs.length (txF (hexT zs) 0)) := by
      have := sRowF_start w zs.length
      rwa [show (fun _ => (⟨#[]⟩ : ByteArray)) = txF (hexT zs) 0 from by funext j; simp [txF]] at this
    have B0 : Hid (Below w.heap.size w (w.alloc (.cells (madeCells #[.string ⟨#[]⟩] zs.length) 9))) := (Below.refl _ _).alloc (Nat.le_refl _) _
    clear hi hz0 hz1 hz2 h0 hcell
    go_enter Tryd.func46, Tryd.ntmps46
    go_wp2_with fail
    clear hmk h9 hb0
    generalize w.alloc (.cells (madeCells #[.string ⟨#[]⟩] zs.length) 9) = w1 at *
    generalize hG : w.heap.size = G at *
    have HG := Lib.hid hG
    clear hG
    go_loopw [25] (fun i wr => ∃ k : Nat, k ≤ zs.length ∧ i = .int .i64 k ∧ Hid (SRowF wr G zs.length (txF (hexT zs) k)) ∧ Hid (Below G w wr)) (fun i _ => zs.length - (intOf i).toNat)
    case atStart => exact ⟨0, Nat.zero_le _, rfl, C0, B0⟩
    case round =>
      obtain ⟨k, hk, rfl, hC, hB⟩ := hrel
      by_cases hlt : k < zs.length
      · have hc := HC.out k hlt
        rw [← hB.out.cell (p := ⟨b, off + k, none⟩) hb] at hc
        have HK := Lib.hid (HZ.out _ (at0_mem hlt))
        have hPw : Hid (Tz wr) := HP.out.below (by rw [HG.out]; exact hB.out)
        go_wp2_with (go_at_call 47; refine (numTxt2 _ HK.out _ hPw.out).mono ?_; rintro e w2 ⟨rfl, hb2⟩; have HB2 := Lib.hid hb2; have hd := (hC.out.below hb2).cell k hlt; have hf := (hC.out.below hb2).free k; clear hb2)
        have hs := Lib.hid ((hC.out.below HB2.out).step hlt (txF_succ (hexT zs) k))
        have hGw : G ≤ wr.heap.size := Nat.le_of_lt hC.out.size
        have hs2 : Hid (Below G w (w2.setCell ⟨G, k, none⟩ (.string ⟨(hexB (at0 zs k)).toArray⟩))) := (hB.out.trans (HB2.out.mono hGw)).setCell (Nat.le_refl _) _
        clear hd hf hc hC hB
        go_roundw
        case rel => exact ⟨k + 1, by omega, by go_num, hs, hs2⟩
        case measure => simp [intOf]; omega
      · have HK : Hid (k = zs.length) := by show k = zs.length; omega
        have hcl : ∀ (j : Nat) x, (zs.map fun z => (⟨(hexB z).toArray⟩ : ByteArray))[j]? = some x → wr.cell? ⟨G, 0 + j, none⟩ = some (.string x) := by
          intro j x hx
          rw [List.getElem?_map, Option.map_eq_some_iff] at hx
          obtain ⟨z, hz, rfl⟩ := hx
          obtain ⟨hj, rfl⟩ := List.getElem?_eq_some_iff.1 hz
          rw [Nat.zero_add, hC.out.cell j hj]
          unfold txF hexT
          rw [if_pos (by have := HK.out; omega), show at0 zs j = zs[j] by simp [at0, List.getD, hj]]
        have hjl : (Lib.join ((zs.map fun z => (⟨(hexB z).toArray⟩ : ByteArray)).map (·.data.toList)) (⟨#[44]⟩ : ByteArray).data.toList).length ≤ 140737488355328 := by
          rw [join_hex]
          have := joinH_len zs
          omega
        have HJ := Lib.hid (Any.strings_Join Go.Proofs.Tryd.lays156 Go.Proofs.Tryd.Builder_Extra_156 G 0 zs.length (zs.map fun z => (⟨(hexB z).toArray⟩ : ByteArray)) ⟨#[44]⟩ wr hcl hC.out.size (by simp; omega) (by simp) hjl)
        rw [join_hex, List.length_map] at HJ
        have hGw : Hid (G ≤ wr.heap.size) := Nat.le_of_lt hC.out.size
        clear hcl hjl hC
        go_wp2_with (go_at_call 74; refine HJ.out.mono ?_; rintro e w2 ⟨rfl, hb2⟩; have HB2 := Lib.hid hb2; clear hb2)
        go_ret2
        have := npost_yes N.out H0.out (by rw [← HG.out] at hB hGw; exact hB.out.trans (HB2.out.mono hGw.out))
        unfold hexTo at this
        rw [List.take_length] at this
        exact this

theorem implNTx (A : Option Addr) (c : Nat) (zs : List Nat) (w : World) (hr : RowF w w.heap.size A zs) (hz : AllW zs) (hn : zs.length ≤ 1048576) (hp : Tz w) :
    Calls Tryd.prog 19 #[.slice A zs.length c] w (NPost zs w) := by
  have HJ := Lib.hid (implNT A c zs w hr hz hn hp)
  clear hr hz hp
  go_enter Tryd.func19, Tryd.ntmps19
  go_wp2_with (go_at_call 46; refine HJ.out.mono ?_; rintro e w1 ⟨rfl, hb1⟩; have HB1 := Lib.hid hb1; clear hb1)
  go_ret2
  exact ⟨rfl, HB1.out⟩

/-- words of 32 bits, in a list that came in -/
structure ListW (w : World) (A : Option Addr) (len : Nat) (zs : List Nat) : Prop where
  list : ListF w A len zs
  all : AllW zs

theorem open_floats_w {H : Type} {enc : TypeId × Value → H} {P : Program} {w : World} {spare : Nat → Bool} {held : Bool} {t e : TypeId} {A : Option Addr} {len cap : Nat} {d : DataW H} {ps : List MemPlace} (ht : P.underlying t = some (.slice e)) (he : P.underlying e = some (.float .f32)) (hc : P.cellsOf e = 1)
    (h : DataW.Trod enc P w 0 spare held t (.slice A len cap) d ps) : ∃ zs, ListW w A len zs := by
  obtain ⟨zs, hl⟩ := open_floats ht he hc h
  refine ⟨zs, hl, fun z hz => ?_⟩
  obtain ⟨fuel, hf⟩ := h
  obtain ⟨j, hj, rfl⟩ := List.getElem_of_mem hz
  have hrow := hl.row (by omega)
  obtain ⟨b, off, rfl, hb, hcell⟩ := hrow
  rcases Go.Deep.open_slice1 ht hc hf with ⟨hcs, _⟩ | ⟨a, l, c, m, n, V, D, Pl, hcs, _, hl2, hm, hmm, _, hx⟩
  · simp [Value.cells] at hcs
  · simp [Value.cells] at hcs
    obtain ⟨rfl, rfl, rfl⟩ := hcs
    have hlen := hl.size
    obtain ⟨h1, h2⟩ := hx j (by rw [hmm]; split <;> omega)
    have hcj := hcell j hj
    rw [Go.WideShapes.add_plain] at h1
    rw [hcj] at h1
    injection h1 with h1
    rw [← h1] at h2
    have hat : at0 zs j = zs[j] := by simp [at0, List.getD, hj]
    rw [hat] at h2
    cases n with
    | zero => cases h2
    | succ n =>
      simp only [DataW.trod, he] at h2
      split at h2
      · rename_i hw
        exact wf32 hw.2
      · cases h2


end Go.Proofs.YtckhdbnoihieeaaDoor
