/-
  What is proved here: the program's text of a list of complex numbers, and that it is read back, as walks; complex numbers that are narrowed, compared and conjugated. Conditions: as each theorem names.
-/
import Derived.Test.YtckhdbnoihieeaaGreatDoorNcm
import Derived.Test.YtckhdbnoihieeaaGreatDoorHtxB
import Derived.Test.YtckhdbnoihieeaaGreatDoorDrwC
import Derived.Test.YtckhdbnoihieeaaGreatDoorIntW
import Derived.Test.YtckhdbnoihieeaaGreatDoorNw
namespace Go.Proofs.YtckhdbnoihieeaaGreatDoor
open Flt Go.RowKit

/-! texts that are read back -/
theorem digH_plain {m : Nat} (h : m < 16) : digH m ≠ 44 := by
  intro e
  have := digH_val h
  rw [e] at this
  have e2 : ((44 : UInt8).toNat : Int) = 44 := by decide
  rw [e2] at this
  split at this <;> omega
theorem hexN_plain : ∀ (k n : Nat), plain (hexN k n)
  | 0, _ => fun x hx => by simp [hexN] at hx
  | k + 1, n => fun x hx => by
    rw [hexN] at hx
    rcases List.mem_append.1 hx with h | h
    · exact hexN_plain k (n / 16) x h
    · rw [List.mem_singleton.1 h]; exact digH_plain (Nat.mod_lt _ (by decide))
theorem bitsN_twice (x : Nat) : bitsN (bitsN x) = bitsN x := by
  cases h : nanW .f32 x
  · have e : bitsN x = x := by unfold bitsN; rw [h]; rfl
    rw [e, e]
  · have e : bitsN x = 2143289344 := by unfold bitsN; rw [h]; rfl
    rw [e]
    decide
theorem rd_hexB {z : Nat} (hz : WF .f32 z) : rdFN (bytes (hexB z)) = bitsN z ∧ rdFB (bytes (hexB z)) = true :=
  rdF_is (by show (hexB z).toArray.size = 8; rw [List.size_toArray]; exact hexB_length z) (by show hexR (hexB z) = some (bitsN z); exact hexR_hexN 8 _ (by have := bitsN_lt hz; omega)) (bitsN_twice z)
theorem bitsV_twice (x : Nat) : bitsV (bitsN x) = bitsV x := by rw [bitsV_N, bitsV_N, bitsN_twice]
theorem bitsN_wf {x : Nat} (h : WF .f32 x) : WF .f32 (bitsN x) := ⟨bitsN_lt h⟩
theorem bitsV_of {a b : Nat} (h : can .f32 a = can .f32 b) : bitsV a = bitsV b := by
  unfold bitsV
  cases ha : nanW .f32 a
  · rw [can_num ha] at h
    obtain ⟨hb, rfl⟩ := can_eq_some h.symm
    rw [hb]
  · rw [can_nan ha] at h
    cases hb : nanW .f32 b
    · rw [can_num hb] at h; cases h
    · rfl

/-- a complex number's text -/
def hexC (p : Nat × Nat) : List UInt8 := hexB p.1 ++ hexB p.2
theorem hexC_length (p : Nat × Nat) : (hexC p).length = 16 := by
  unfold hexC; rw [List.length_append, hexB_length, hexB_length]
def joinC (zs : List (Nat × Nat)) : List UInt8 := Lib.join (zs.map hexC) [44]
def ctT (zs : List (Nat × Nat)) : List UInt8 := if zs.length = 0 then noneT else joinC zs

theorem joinC_len (zs : List (Nat × Nat)) : (joinC zs).length ≤ 17 * zs.length := by
  have key : ∀ (r : List (Nat × Nat)), (Lib.joinTail [44] (r.map hexC)).length ≤ 17 * r.length := by
    intro r
    induction r with
    | nil => simp [Lib.joinTail]
    | cons z r ih =>
      have h1 := hexC_length z
      unfold Lib.joinTail at ih ⊢
      simp at ih ⊢
      omega
  cases zs with
  | nil => simp [joinC, Lib.join_nil]
  | cons z r =>
    have h1 := hexC_length z
    have h2 := key r
    unfold joinC
    rw [List.map_cons, Lib.join_cons, List.length_append, List.length_cons]
    omega
theorem joinC_one (z : Nat × Nat) : joinC [z] = hexC z := Lib.join_one _ _
theorem joinC_cons2 (z y : Nat × Nat) (r : List (Nat × Nat)) : joinC (z :: y :: r) = hexC z ++ 44 :: joinC (y :: r) := by
  unfold joinC
  rw [List.map_cons, Lib.join_cons, List.map_cons, Lib.join_cons]
  unfold Lib.joinTail
  simp
theorem hexC_plain (p : Nat × Nat) : plain (hexC p) := by
  intro x hx
  unfold hexC at hx
  rcases List.mem_append.1 hx with h | h
  · exact hexN_plain 8 _ x h
  · exact hexN_plain 8 _ x h
theorem cut_joinC : ∀ (z : Nat × Nat) (r : List (Nat × Nat)), cutF (joinC (z :: r)) = (z :: r).map hexC
  | z, [] => by rw [joinC_one]; exact cutF_end (hexC_plain z)
  | z, y :: r => by rw [joinC_cons2, cutF_hit (hexC_plain z), cut_joinC y r]; rfl
theorem joinC_long (z : Nat × Nat) (r : List (Nat × Nat)) : 16 ≤ (joinC (z :: r)).length := by
  have h1 := hexC_length z
  unfold joinC
  rw [List.map_cons, Lib.join_cons, List.length_append]
  omega

theorem lo8_bytes (a b : List UInt8) (h : a.length = 8) : lo8 (bytes (a ++ b)) = bytes a := by
  unfold lo8 bytes
  apply ByteArray.ext
  rw [ByteArray.data_extract]
  simp [h]
theorem hi8_bytes (a b : List UInt8) (h : a.length = 8) (h2 : b.length = 8) : hi8 (bytes (a ++ b)) = bytes b := by
  unfold hi8 bytes
  apply ByteArray.ext
  rw [ByteArray.data_extract]
  have e : (⟨(a ++ b).toArray⟩ : ByteArray).size = 16 := by show (a ++ b).toArray.size = 16; rw [List.size_toArray, List.length_append]; omega
  rw [e]
  simp [h]
  exact List.take_of_length_le (by omega)
/-- the words that are read back -/
def bitsC (p : Nat × Nat) : Nat × Nat := (bitsN p.1, bitsN p.2)
theorem rd_hexC {p : Nat × Nat} (hp : WF .f32 p.1 ∧ WF .f32 p.2) : rdCB (bytes (hexC p)) = true ∧ rdCN (bytes (hexC p)) = bitsC p := by
  have h16 : (bytes (hexC p)).size = 16 := by show (hexC p).toArray.size = 16; rw [List.size_toArray]; exact hexC_length p
  have hl : lo8 (bytes (hexC p)) = bytes (hexB p.1) := lo8_bytes _ _ (hexB_length _)
  have hh : hi8 (bytes (hexC p)) = bytes (hexB p.2) := hi8_bytes _ _ (hexB_length _) (hexB_length _)
  have a := rd_hexB hp.1
  have b := rd_hexB hp.2
  have hb : rdCB (bytes (hexC p)) = true := by rw [rdC_of h16, hl, hh, a.2, b.2]; rfl
  refine ⟨hb, ?_⟩
  unfold rdCN bitsC
  rw [if_pos hb, hl, hh, a.1, b.1]

theorem map_back : ∀ (l : List (Nat × Nat)), AllC l → rdNsC ((l.map hexC).map bytes) = l.map bitsC
  | [], _ => rfl
  | q :: r, h => by
    have e := map_back r fun x hx => h x (List.mem_cons_of_mem _ hx)
    unfold rdNsC at e ⊢
    rw [List.map_cons, List.map_cons, List.map_cons, List.map_cons, (rd_hexC (h q (List.mem_cons_self ..))).2, e]

/-- what was written is read back, but for the bits of not-a-numbers -/
theorem cl_back {zs : List (Nat × Nat)} (h : zs.length ≤ 256) (hz : AllC zs) : clB ⟨(ctT zs).toArray⟩ = true ∧ clL ⟨(ctT zs).toArray⟩ = zs.map bitsC ∧ (ctT zs).toArray.size ≤ 1048576 := by
  cases zs with
  | nil =>
    have e : ctT [] = noneT := by rw [ctT, if_pos (show ([] : List (Nat × Nat)).length = 0 from rfl)]
    rw [e]
    obtain ⟨h1, h2⟩ := clL_none (s := ⟨noneT.toArray⟩) (by simp)
    exact ⟨h2, h1, by decide⟩
  | cons z r =>
    have e : ctT (z :: r) = joinC (z :: r) := by rw [ctT, if_neg (by simp)]
    rw [e]
    have hlen := joinC_long z r
    have hl9 := joinC_len (z :: r)
    have hcut : cutB ⟨(joinC (z :: r)).toArray⟩ = ((z :: r).map hexC).map bytes := by
      unfold cutB
      rw [← cut_joinC]
    have hnone : ¬ (⟨(joinC (z :: r)).toArray⟩ : ByteArray).data.toList = noneT := by
      intro e2
      have e3 := congrArg List.length e2
      have e4 : noneT.length = 4 := by decide
      rw [e4] at e3
      simp at e3
      omega
    have hok : rdOkC (((z :: r).map hexC).map bytes) = true := by
      unfold rdOkC
      rw [List.all_eq_true]
      intro x hx
      obtain ⟨y, hy, rfl⟩ := List.mem_map.1 hx
      obtain ⟨q, hq, rfl⟩ := List.mem_map.1 hy
      exact (rd_hexC (hz q hq)).1
    obtain ⟨h1, h2⟩ := clL_yes hnone (by rw [hcut]; simpa using h) (by rw [hcut]; exact hok)
    refine ⟨h2, ?_, by rw [List.size_toArray]; omega⟩
    rw [h1, hcut]
    exact map_back _ hz

/-! the text, as a walk -/
theorem oneTxt (x y : Nat) (hx : WF .f32 x) (hy : WF .f32 y) (w : World) (ht : Tz w) :
    Calls Tryz.prog 37 #[.complex .f32 x y] w fun e w' => e = .returned (.string ⟨(hexC (x, y)).toArray⟩) ∧ Below w.heap.size w w' := by
  have H1 := Lib.hid hx
  have H2 := Lib.hid hy
  have HT := Lib.hid ht
  have hadd : ∀ W, (Op.stringOp .add ⟨(hexB x).toArray⟩ ⟨(hexB y).toArray⟩).run Tryz.prog W = .ok (.string ⟨(hexC (x, y)).toArray⟩) W := by
    intro W
    have h1 := hexB_length x
    have h2 := hexB_length y
    rw [run_string_add_sum W _ _ (by show (hexB x).toArray.size + (hexB y).toArray.size ≤ _; simp; omega), ByteArray.mk_append_mk]
    rfl
  clear ht hx hy
  go_enter Tryz.func37, Tryz.ntmps37
  go_wp2_with fail
  refine (numTxt2 x H1.out _ HT.out).mono ?_
  rintro e w1 ⟨rfl, hb1⟩
  have HB1 := Lib.hid hb1
  clear hb1
  go_wp2_with fail
  refine (numTxt2 y H2.out _ (HT.out.below HB1.out)).mono ?_
  rintro e w2 ⟨rfl, hb2⟩
  have HB2 := Lib.hid hb2
  clear hb2
  go_wp2_with fail
  go_ret
  exact ⟨rfl, HB1.out.trans (HB2.out.mono HB1.out.size)⟩

def hexCT (zs : List (Nat × Nat)) (j : Nat) : ByteArray := ⟨(hexC (atC zs j)).toArray⟩
theorem join_hexC (zs : List (Nat × Nat)) : Lib.join ((zs.map fun z => (⟨(hexC z).toArray⟩ : ByteArray)).map (·.data.toList)) (⟨#[44]⟩ : ByteArray).data.toList = joinC zs := by
  unfold joinC
  rw [List.map_map]
  rfl
theorem atC_mem {zs : List (Nat × Nat)} {j : Nat} (h : j < zs.length) : atC zs j ∈ zs := by rw [atC_is h]; exact List.getElem_mem h

def CTPost (zs : List (Nat × Nat)) (w : World) (e : Ending) (w' : World) : Prop := e = .returned (.tuple #[.string ⟨(ctT zs).toArray⟩, .bool true]) ∧ Below w.heap.size w w'
theorem ctpost_none {zs : List (Nat × Nat)} {w w' : World} (h0 : zs.length = 0) (hb : Below w.heap.size w w') : CTPost zs w (.returned (.tuple #[.string ⟨#[110, 111, 110, 101]⟩, .bool true])) w' := by
  refine ⟨?_, hb⟩
  unfold ctT
  rw [if_pos h0]; rfl
theorem ctpost_yes {zs : List (Nat × Nat)} {w w' : World} (h0 : ¬ zs.length = 0) (hb : Below w.heap.size w w') : CTPost zs w (.returned (.tuple #[.string ⟨(joinC zs).toArray⟩, .bool true])) w' := by
  refine ⟨?_, hb⟩
  unfold ctT
  rw [if_neg h0]

theorem implCT (A : Option Addr) (c : Nat) (zs : List (Nat × Nat)) (w : World) (hr : RowC w w.heap.size A zs) (hz : AllC zs) (h256 : zs.length ≤ 256) (hp : Tz w) :
    Calls Tryz.prog 36 #[.slice A zs.length c, .int .i64 256, .string ⟨#[44]⟩, .func (.func 37) #[] #[]] w (CTPost zs w) := by
  have HR := Lib.hid hr
  have HZ := Lib.hid hz
  have HP := Lib.hid hp
  clear hr hp hz
  have h9 : decide ((256 : Int) < (zs.length : Int)) = false := decide_eq_false (by omega)
  by_cases h0 : zs.length = 0
  · have hb0 : ((zs.length : Int) == 0) = true := by simpa using h0
    have H0 := Lib.hid h0
    clear h0
    go_enter Tryz.func36, Tryz.ntmps36
    go_wp2_with fail
    go_ret2
    exact ctpost_none H0.out (Below.refl _ _)
  · have hb0 : ((zs.length : Int) == 0) = false := by simpa using h0
    have H0 := Lib.hid h0
    obtain ⟨b, off, rfl, hb, hcell⟩ := HR.out (by omega)
    have HC := Lib.hid hcell
    obtain ⟨i0, hi, hz0, hz1, hz2⟩ := info_parts info_strF
    have hmk := fun W => run_make_rowF (P := Tryz.prog) 77 9 i0 (.string ⟨#[]⟩) Tryz.underlying77 hi hz0 .i64 .i64 zs.length zs.length (Nat.le_refl _) (by rw [hz2]; omega) (by omega) W
    rw [hz1, Nat.mul_one] at hmk
    have C0 : Hid (SRowF (w.alloc (.cells (madeCells #[.string ⟨#[]⟩] zs.length) 9)) w.heap.size zs.length (txF (hexCT zs) 0)) := by
      have := sRowF_start w zs.length
      rwa [show (fun _ => (⟨#[]⟩ : ByteArray)) = txF (hexCT zs) 0 from by funext j; simp [txF]] at this
    have B0 : Hid (Below w.heap.size w (w.alloc (.cells (madeCells #[.string ⟨#[]⟩] zs.length) 9))) := (Below.refl _ _).alloc (Nat.le_refl _) _
    clear hi hz0 hz1 hz2 h0 hcell
    go_enter Tryz.func36, Tryz.ntmps36
    go_wp2_with fail
    clear hmk h9 hb0
    generalize w.alloc (.cells (madeCells #[.string ⟨#[]⟩] zs.length) 9) = w1 at *
    generalize hG : w.heap.size = G at *
    have HG := Lib.hid hG
    clear hG
    go_loopw [25] (fun i wr => ∃ k : Nat, k ≤ zs.length ∧ i = .int .i64 k ∧ Hid (SRowF wr G zs.length (txF (hexCT zs) k)) ∧ Hid (Below G w wr)) (fun i _ => zs.length - (intOf i).toNat)
    case atStart => exact ⟨0, Nat.zero_le _, rfl, C0, B0⟩
    case round =>
      obtain ⟨k, hk, rfl, hC, hB⟩ := hrel
      by_cases hlt : k < zs.length
      · have hc := HC.out k hlt
        rw [← hB.out.cell (p := ⟨b, off + k, none⟩) hb] at hc
        unfold cV at hc
        have HK := Lib.hid (HZ.out _ (atC_mem hlt))
        have HE : Hid (⟨(hexC ((atC zs k).1, (atC zs k).2)).toArray⟩ = hexCT zs k) := rfl
        generalize (atC zs k).1 = p at *
        generalize (atC zs k).2 = q at *
        have hPw : Hid (Tz wr) := HP.out.below (by rw [HG.out]; exact hB.out)
        go_wp2_with (go_at_call 37; refine (oneTxt _ _ HK.out.1 HK.out.2 _ hPw.out).mono ?_; rw [HE.out]; rintro e w2 ⟨rfl, hb2⟩; have HB2 := Lib.hid hb2; have hd := (hC.out.below hb2).cell k hlt; have hf := (hC.out.below hb2).free k; clear hb2)
        have hs := Lib.hid ((hC.out.below HB2.out).step hlt (txF_succ (hexCT zs) k))
        have hGw : G ≤ wr.heap.size := Nat.le_of_lt hC.out.size
        have hs2 : Hid (Below G w (w2.setCell ⟨G, k, none⟩ (.string (hexCT zs k)))) := (hB.out.trans (HB2.out.mono hGw)).setCell (Nat.le_refl _) _
        clear hd hf hc hC hB
        go_roundw
        case rel => exact ⟨k + 1, by omega, by go_num, hs, hs2⟩
        case measure => simp [intOf]; omega
      · have HK : Hid (k = zs.length) := by show k = zs.length; omega
        have hcl : ∀ (j : Nat) x, (zs.map fun z => (⟨(hexC z).toArray⟩ : ByteArray))[j]? = some x → wr.cell? ⟨G, 0 + j, none⟩ = some (.string x) := by
          intro j x hx
          rw [List.getElem?_map, Option.map_eq_some_iff] at hx
          obtain ⟨z, hz, rfl⟩ := hx
          obtain ⟨hj, rfl⟩ := List.getElem?_eq_some_iff.1 hz
          rw [Nat.zero_add, hC.out.cell j hj]
          unfold txF hexCT
          rw [if_pos (by have := HK.out; omega), atC_is hj]
        have hjl : (Lib.join ((zs.map fun z => (⟨(hexC z).toArray⟩ : ByteArray)).map (·.data.toList)) (⟨#[44]⟩ : ByteArray).data.toList).length ≤ 140737488355328 := by
          rw [join_hexC]
          have := joinC_len zs
          omega
        have HJ := Lib.hid (Any.strings_Join Go.Proofs.Tryz.lays156 Go.Proofs.Tryz.Builder_Extra_156 G 0 zs.length (zs.map fun z => (⟨(hexC z).toArray⟩ : ByteArray)) ⟨#[44]⟩ wr hcl hC.out.size (by simp; omega) (by simp) hjl)
        rw [join_hexC, List.length_map] at HJ
        have hGw : Hid (G ≤ wr.heap.size) := Nat.le_of_lt hC.out.size
        clear hcl hjl hC
        go_wp2_with (go_at_call 57; refine HJ.out.mono ?_; rintro e w2 ⟨rfl, hb2⟩; have HB2 := Lib.hid hb2; clear hb2)
        go_ret2
        exact ctpost_yes H0.out (by rw [← HG.out] at hB hGw; exact hB.out.trans (HB2.out.mono hGw.out))

theorem implCTx (A : Option Addr) (c : Nat) (zs : List (Nat × Nat)) (w : World) (hr : RowC w w.heap.size A zs) (hz : AllC zs) (hn : zs.length ≤ 256) (hp : Tz w) :
    Calls Tryz.prog 16 #[.slice A zs.length c] w (CTPost zs w) := by
  have HJ := Lib.hid (implCT A c zs w hr hz hn hp)
  clear hr hz hp
  go_enter Tryz.func16, Tryz.ntmps16
  go_wp2_with (go_at_call 36; refine HJ.out.mono ?_; rintro e w1 ⟨rfl, hb1⟩; have HB1 := Lib.hid hb1; clear hb1)
  go_ret2
  exact ⟨rfl, HB1.out⟩

theorem read_backC (zs : List (Nat × Nat)) (h : zs.length ≤ 256) (hz : AllC zs) (w : World) (hm : Most w) :
    Calls Tryz.prog 17 #[.string ⟨(ctT zs).toArray⟩] w fun e w' => ∃ A c, e = .returned (.tuple #[.slice A zs.length c, .bool true]) ∧ Hid (OwnC w' w.heap.size A (zs.map bitsC)) ∧ Hid (Below w.heap.size w w') := by
  obtain ⟨h1, h2, h3⟩ := cl_back h hz
  refine (implCl _ h3 w hm).mono ?_
  rintro e w' ⟨A, c, rfl, hO, hB⟩
  rw [h1, h2] at *
  rw [List.length_map]
  exact ⟨A, c, rfl, hO, hB⟩

/-! comparisons -/
theorem below_drew {B n : Nat} {w w' : World} (h : Below B w w') : Below B w (w'.drewN n) := ⟨h.os, h.tape, h.output, h.size, h.block⟩
theorem RowC.drew {w : World} {B n : Nat} {A : Option Addr} {zs : List (Nat × Nat)} (h : RowC w B A zs) : RowC (w.drewN n) B A zs := h

theorem specSame_yes (a b : Nat) (ha : WF .f32 a) (hb : WF .f32 b) (h : bitsV a = bitsV b) (w : World) :
    Calls Tryz.prog 9 #[.float .f32 a, .float .f32 b] w fun e w' => e = .returned (.bool true) ∧ ∃ n, w' = w.drewN n := by
  have := specSame a b ha hb w
  rwa [show (bitsV a == bitsV b) = true by rw [h]; simp] at this
theorem implSame_yes (a b : Nat) (ha : WF .f32 a) (hb : WF .f32 b) (h : bitsV a = bitsV b) (w : World) :
    Calls Tryz.prog 49 #[.float .f32 a, .float .f32 b] w fun e w' => e = .returned (.bool true) ∧ ∃ n, w' = w.drewN n := by
  have := implSame a b ha hb w
  rwa [show (bitsV a == bitsV b) = true by rw [h]; simp] at this
theorem specSame1 (a b : Nat) (ha : WF .f32 a) (hb : WF .f32 b) (w : World) :
    Calls Tryz.prog 32 #[.float .f32 a, .float .f32 b] w fun e w' => e = .returned (.bool (bitsV a == bitsV b)) ∧ ∃ n, w' = w.drewN n := by
  go_enter Tryz.func32, Tryz.ntmps32
  go_wp2_with (go_at_call 54; refine (specBits _ (by assumption) _).mono ?_; rintro e w' ⟨rfl, rfl⟩)
  go_ret
  exact ⟨rfl, 0, rfl⟩
theorem specSame1_yes (a b : Nat) (ha : WF .f32 a) (hb : WF .f32 b) (h : bitsV a = bitsV b) (w : World) :
    Calls Tryz.prog 32 #[.float .f32 a, .float .f32 b] w fun e w' => e = .returned (.bool true) ∧ ∃ n, w' = w.drewN n := by
  have := specSame1 a b ha hb w
  rwa [show (bitsV a == bitsV b) = true by rw [h]; simp] at this

theorem implSameC (a b c d : Nat) (ha : WF .f32 a) (hb : WF .f32 b) (hc : WF .f32 c) (hd : WF .f32 d) (h1 : bitsV a = bitsV c) (h2 : bitsV b = bitsV d) (w : World) :
    Calls Tryz.prog 23 #[.complex .f32 a b, .complex .f32 c d] w fun e w' => e = .returned (.bool true) ∧ ∃ n, w' = w.drewN n := by
  have H1 := Lib.hid (implSame_yes a c ha hc h1)
  have H2 := Lib.hid (implSame_yes b d hb hd h2)
  clear ha hb hc hd h1 h2
  go_enter Tryz.func23, Tryz.ntmps23
  go_wp2_with (go_at_call 49; first | (with_reducible refine (H1.out _).mono ?_); rintro e w' ⟨rfl, n, rfl⟩ | (with_reducible refine (H2.out _).mono ?_); rintro e w' ⟨rfl, n, rfl⟩)
  go_ret
  exact ⟨rfl, _, rfl⟩
theorem specSameC (a b c d : Nat) (ha : WF .f32 a) (hb : WF .f32 b) (hc : WF .f32 c) (hd : WF .f32 d) (h1 : bitsV a = bitsV c) (h2 : bitsV b = bitsV d) (w : World) :
    Calls Tryz.prog 48 #[.complex .f32 a b, .complex .f32 c d] w fun e w' => e = .returned (.bool true) ∧ ∃ n, w' = w.drewN n := by
  have H1 := Lib.hid (specSame1_yes a c ha hc h1)
  have H2 := Lib.hid (specSame1_yes b d hb hd h2)
  clear ha hb hc hd h1 h2
  go_enter Tryz.func48, Tryz.ntmps48
  go_wp2_with (first | (go_at_call 32; first | (with_reducible refine (H1.out _).mono ?_); rintro e w' ⟨rfl, n, rfl⟩ | (with_reducible refine (H2.out _).mono ?_); rintro e w' ⟨rfl, n, rfl⟩) | go_in)
  go_ret
  exact ⟨rfl, _, rfl⟩

theorem implFinC (x y : Nat) (w : World) :
    Calls Tryz.prog 25 #[.complex .f32 x y] w fun e w' => e = .returned (.bool (finB .f32 x && finB .f32 y)) ∧ ∃ n, w' = w.drewN n := by
  cases h : finB .f32 x
  · have H := Lib.hid h
    have c1 : Hid (∀ W, Calls Tryz.prog 50 #[.float .f32 x] W fun e w' => e = .returned (.bool false) ∧ ∃ n, w' = W.drewN n) := fun W => by have := implFin x W; rwa [H.out] at this
    clear h
    go_enter Tryz.func25, Tryz.ntmps25
    go_wp2_with (go_at_call 50; refine (c1.out _).mono ?_; rintro e w' ⟨rfl, n, rfl⟩)
    go_ret
    exact ⟨rfl, _, rfl⟩
  · have H := Lib.hid h
    have c1 : Hid (∀ W, Calls Tryz.prog 50 #[.float .f32 x] W fun e w' => e = .returned (.bool true) ∧ ∃ n, w' = W.drewN n) := fun W => by have := implFin x W; rwa [H.out] at this
    clear h
    go_enter Tryz.func25, Tryz.ntmps25
    go_wp2_with fail
    refine (c1.out _).mono ?_
    rintro e w' ⟨rfl, n, rfl⟩
    go_wp2_with fail
    refine (implFin y _).mono ?_
    rintro e w' ⟨rfl, n2, rfl⟩
    go_wp2_with fail
    go_ret
    exact ⟨rfl, _, rfl⟩

theorem specIsFin (x : Nat) (b : Bool) (h : finB .f32 x = b) (w : World) :
    Calls Tryz.prog 26 #[.float .f32 x] w fun e w' => e = .returned (.bool b) ∧ ∃ n, w' = w.drewN n := by
  have H := Lib.hid h
  clear h
  go_enter Tryz.func26, Tryz.ntmps26
  go_wp2_with (go_at_call 51; refine (specFin _ _).mono ?_; rw [H.out]; rintro e w' ⟨rfl, n, rfl⟩)
  go_ret
  exact ⟨rfl, _, rfl⟩

theorem neg_twice (y : Nat) : Op.negFloat .f32 (Op.negFloat .f32 y) = y := by
  unfold Op.negFloat
  rw [Nat.xor_assoc, Nat.xor_self, Nat.xor_zero]

theorem narrowNumber_any (r : Nat) (c : Option Nat) (h1 : okNar (can .f64 r)) (h2 : nar (can .f64 r) = c) (w : World) :
    Calls Tryz.prog 30 #[.float .f64 r] w (FPost .f32 c w) := by
  have H := Lib.hid h1
  have H2 := Lib.hid h2
  clear h1 h2
  go_enter Tryz.func30, Tryz.ntmps30
  go_wp2_with ((with_reducible refine upon_nar ?_ ?_ H.out ?_); rotate_left 2; intro _ _ _ _; rotate_left 1; kernel_rfl; kernel_rfl)
  rename_i t n wt et
  go_ret
  exact fpost (by rw [et.out, H2.out]) wt
/-- a widened complex number, narrowed -/
theorem narrowC_back (x y r s : Nat) (hx : WF .f32 x) (hy : WF .f32 y) (hr : can .f64 r = wid (can .f32 x)) (hs : can .f64 s = wid (can .f32 y)) (w : World) :
    Calls Tryz.prog 24 #[.complex .f64 r s] w fun e w' => ∃ g h n, e = .returned (.complex .f32 g h) ∧ w' = w.drewN n ∧ Hid ((can .f32 g = can .f32 x ∧ WF .f32 g) ∧ (can .f32 h = can .f32 y ∧ WF .f32 h)) := by
  have c1 := Lib.hid (narrowNumber_any r _ (nar_back hx hr).1 (nar_back hx hr).2)
  have c2 := Lib.hid (narrowNumber_any s _ (nar_back hy hs).1 (nar_back hy hs).2)
  clear hx hy hr hs
  go_enter Tryz.func24, Tryz.ntmps24
  go_wp2_with fail
  refine (c1.out _).mono ?_
  rintro e w' ⟨g, n, rfl, rfl, hg, wg⟩
  go_wp2_with fail
  refine (c2.out _).mono ?_
  rintro e w' ⟨h, n2, rfl, rfl, hh, wh⟩
  go_wp2_with fail
  go_ret
  exact ⟨g, h, _, rfl, rfl, ⟨hg.out, wg⟩, ⟨hh.out, wh⟩⟩

/-- two lists of the law, compared -/
theorem b10Same_yes (A B : Option Addr) (c d : Nat) (zs : List (Nat × Nat)) (w : World) (Z : Nat) (hr : RowC w Z A (zs.map bitsC)) (hq : RowC w Z B zs) (hz : AllC zs) (hn : zs.length ≤ 1048576) :
    Calls Tryz.prog 22 #[.slice A zs.length c, .slice B zs.length d] w fun e w' => e = .returned (.bool true) ∧ ∃ n, w' = w.drewN n := by
  have HR := Lib.hid hr
  have HQ := Lib.hid hq
  have HZ := Lib.hid hz
  clear hr hq hz
  go_enter Tryz.func22, Tryz.ntmps22
  go_wp2
  go_loopw [13] (fun i wr => ∃ k : Nat, k ≤ zs.length ∧ i = .int .i64 k ∧ ∃ n, wr = w.drewN n) (fun i _ => zs.length - (intOf i).toNat)
  case atStart => exact ⟨0, Nat.zero_le _, rfl, 0, rfl⟩
  case round =>
    obtain ⟨k, hk, rfl, n, rfl⟩ := hrel
    by_cases hlt : k < zs.length
    · obtain ⟨b, off, rfl, hb, hcell⟩ := HR.out (by rw [List.length_map]; omega)
      obtain ⟨b2, off2, rfl, hb2, hcell2⟩ := HQ.out (by omega)
      have hc := hcell k (by rw [List.length_map]; omega)
      have hd := hcell2 k hlt
      have he : atC (zs.map bitsC) k = bitsC (atC zs k) := by simp [atC, List.getD, hlt]
      rw [he] at hc
      unfold cV bitsC at hc
      unfold cV at hd
      have HW := Lib.hid (HZ.out _ (atC_mem hlt))
      generalize (atC zs k).1 = p at *
      generalize (atC zs k).2 = q at *
      clear hcell hcell2 he
      go_wp2_with fail
      go_region_with (go_at_call 48; refine (specSameC _ _ _ _ (bitsN_wf HW.out.1) (bitsN_wf HW.out.2) HW.out.1 HW.out.2 (bitsV_twice _) (bitsV_twice _) _).mono ?_; rintro e w' ⟨rfl, n2, rfl⟩)
      all_goals
        go_wp2
        go_roundw
        case rel => exact ⟨k + 1, by omega, by go_num, _, rfl⟩
        case measure => simp [intOf]; omega
    · go_wp2
      go_ret
      exact ⟨rfl, _, rfl⟩

end Go.Proofs.YtckhdbnoihieeaaGreatDoor
