/-
  What is proved here: StoreShape, of both packages, as walks. Conditions: a shape that a machine can hold.
-/
import Derived.Test.YteojpmnnpinpeaaGrl
import Derived.Test.YteojpmnnpinpeaaShc
import Derived.Test.YteojpmnnpinpeaaVsh
import Derived.Test.YteojpmnnpinpeaaCheck
namespace Go.Proofs.Yteojpmnnpinpeaa
open Go.RowKit
set_option linter.unusedVariables false

/-- the bytes of a shape, part by part -/
def st1 (s : ByteArray) : List UInt8 := [83, 72, 80, 49] ++ [UInt8.ofNat s.size]
def st2 (s : ByteArray) : List UInt8 := st1 s ++ s.data.toList
def st3 (s : ByteArray) (x y : Int) : List UInt8 := st2 s ++ [UInt8.ofNat x.toNat, UInt8.ofNat y.toNat]
def st4 (s : ByteArray) (x y : Int) (P : List UInt8) : List UInt8 := st3 s x y ++ pairU P.length
def st5 (s : ByteArray) (x y : Int) (P : List UInt8) : List UInt8 := st4 s x y P ++ P
def st6 (s : ByteArray) (x y : Int) (P : List UInt8) : List UInt8 := st5 s x y P ++ pairU (chk 0 (st5 s x y P)).toNat
theorem st1_len (s : ByteArray) : (st1 s).length = 5 := rfl
theorem st2_len (s : ByteArray) : (st2 s).length = 5 + s.size := by unfold st2; rw [List.length_append, st1_len]; rfl
theorem st3_len (s : ByteArray) (x y : Int) : (st3 s x y).length = 5 + s.size + 2 := by unfold st3; rw [List.length_append, st2_len]; rfl
theorem st4_len (s : ByteArray) (x y : Int) (P : List UInt8) : (st4 s x y P).length = 5 + s.size + 2 + 2 := by unfold st4; rw [List.length_append, st3_len]; rfl
theorem st5_len (s : ByteArray) (x y : Int) (P : List UInt8) : (st5 s x y P).length = 5 + s.size + 2 + 2 + P.length := by unfold st5; rw [List.length_append, st4_len]
theorem pIt_pos {p : Nat → Bool} {n : Nat} (h : 0 < n) : ∀ k, 0 < (pIt p n (k + 1)).out.length
  | 0 => by
    show 0 < (pStep p n ⟨0, false, []⟩).out.length
    unfold pStep
    rw [if_pos h]
    unfold encR
    split <;> simp
  | k + 1 => by
    have := pIt_pos (p := p) h k
    show 0 < (pStep p n (pIt p n (k + 1))).out.length
    unfold pStep
    split
    · simp only [List.length_append]; omega
    · exact this
theorem packU_bd {p : Nat → Bool} {n : Nat} (h : 0 < n) (h2 : n ≤ 256) : 0 < (packU p n).length ∧ (packU p n).length ≤ 1028 := by
  have := pIt_len p n (2 * n + 2)
  exact ⟨pIt_pos h _, by show (pIt p n (2 * n + 2)).out.length ≤ _; omega⟩
theorem vsB_yes {s : ByteArray} {x y : Int} {n : Nat} (h : vsB s x y n = true) : (1 ≤ s.size ∧ s.size ≤ 8) ∧ fvB x y n = true := by
  unfold vsB at h
  rw [Bool.and_eq_true] at h
  refine ⟨?_, h.2⟩
  have h1 := h.1
  unfold nameB at h1
  rw [Bool.and_eq_true] at h1
  exact of_decide_eq_true h1.1
theorem VarS.low {w w' : World} {v G : Nat} {s : ByteArray} {x y : Int} {A : Option Addr} {n c : Nat} (h : VarS w v s x y A n c) (hb : Below G w w') (hv : v < G) : VarS w' v s x y A n c := by
  have e : w'.heap[v]? = w.heap[v]? := hb.block v hv
  exact ⟨Nat.lt_of_lt_of_le h.lt hb.size, by rw [World.cell?_of_block (w := w) e]; exact h.c0, by rw [World.cell?_of_block (w := w) e]; exact h.c1, by rw [World.cell?_of_block (w := w) e]; exact h.c2, by rw [World.cell?_of_block (w := w) e]; exact h.c3⟩
/-- the first bytes, and the length behind them -/
theorem headW (w : World) (y : UInt8) (a : Int) (ha : a = (y.toNat : Int)) (t : TypeId) (fr : Nat × Nat) :
    (∀ j, j < [(83 : UInt8), 72, 80, 49].length → ((w.alloc (.cells #[.int .u8 83, .int .u8 72, .int .u8 80, .int .u8 49] t fr)).alloc (.cells #[.int .u8 a] t)).cell? ⟨w.heap.size, 0 + j, none⟩ = some (uB (atU [83, 72, 80, 49] j))) ∧
    (∀ j, j < [y].length → ((w.alloc (.cells #[.int .u8 83, .int .u8 72, .int .u8 80, .int .u8 49] t fr)).alloc (.cells #[.int .u8 a] t)).cell? ⟨w.heap.size + 1, 0 + j, none⟩ = some (uB (atU [y] j))) ∧
    Below w.heap.size w ((w.alloc (.cells #[.int .u8 83, .int .u8 72, .int .u8 80, .int .u8 49] t fr)).alloc (.cells #[.int .u8 a] t)) := by
  subst ha
  refine ⟨fun j hj => ?_, fun j hj => ?_, ((Below.refl _ _).alloc (Nat.le_refl _) _).alloc (by simp) _⟩
  · rw [((Below.refl _ _).alloc (Nat.le_refl _) _).cell (p := ⟨w.heap.size, 0 + j, none⟩) (by simp), Nat.zero_add, Joins.cell_alloc_mark_at w _ t fr _ j rfl]
    match j, hj with
    | 0, _ => rfl
    | 1, _ => rfl
    | 2, _ => rfl
    | 3, _ => rfl
  · rw [show w.heap.size + 1 = (w.alloc (.cells #[.int .u8 83, .int .u8 72, .int .u8 80, .int .u8 49] t fr)).heap.size by simp]
    match j, hj with
    | 0, _ => rw [Nat.zero_add, Joins.cell_alloc_mark_at _ _ t (0, 0) _ 0 rfl]; rfl

set_option maxHeartbeats 8000000 in
set_option maxRecDepth 100000 in
theorem implShs (s : ByteArray) (x y : Int) (A : Option Addr) (n c : Nat) (p : Nat → Bool) (w : World) (hr : RowV w w.heap.size A n (bo p)) (hc : n ≤ c) (hs : s.size ≤ 1048576) (hn : n ≤ 1048576) (hv : vsB s x y n = true) :
    Calls Try.prog 112 #[.agg #[.string s, .int .i64 x, .int .i64 y, .slice A n c]] w fun e w' => e = .returned (.tuple #[.string ⟨(st6 s x y (packU p n)).toArray⟩, .bool true]) ∧ Hid (Below w.heap.size w w') := by
  obtain ⟨⟨hs1, hs8⟩, hf⟩ := vsB_yes hv
  obtain ⟨⟨hx, hy⟩, hnn, hn1, hn2⟩ := fvB_yes hf
  obtain ⟨hp0, hp1⟩ := packU_bd (p := p) hn1 hn2
  have HVS := Lib.hid (fun W => implVs s x y A n c W hs hn)
  rw [hv] at HVS
  have HPK := Lib.hid (fun W h => implPak A n c p W h hc hn2)
  have B0 := below_varS w s x y A n c 103
  have HB := Lib.hid B0
  have HV := Lib.hid (varS_new w s x y A n c 103)
  have HR := Lib.hid (hr.carry B0)
  have kc := fun (w : World) (C : Array Value) (n c : Nat) => Lib.run_convert_bytes_const (P := Try.prog) w 212 5 C n c Try.underlying212 Try.underlying5
  obtain ⟨hx1, hx2⟩ := hx
  obtain ⟨hy1, hy2⟩ := hy
  have hsv : ((UInt8.ofNat s.size).toNat : Int) = (s.size : Int) := u8n (by omega)
  have hxv : ((UInt8.ofNat x.toNat).toNat : Int) = x := by rw [u8n (by omega)]; omega
  have hyv : ((UInt8.ofNat y.toNat).toNat : Int) = y := by rw [u8n (by omega)]; omega
  have HSV := Lib.hid hsv.symm
  have HXV := Lib.hid hxv.symm
  have HYV := Lib.hid hyv.symm
  clear hnn hr hv hf B0 hsv hxv hyv
  have hps : Hid ((⟨(packU p n).toArray⟩ : ByteArray).size = (packU p n).length) := rfl
  generalize packU p n = P at *
  obtain ⟨cb0, cb1⟩ := chk_bd 0 (st5 s x y P) ⟨by decide, by decide⟩
  obtain ⟨k, hk⟩ : ∃ k : Nat, chk 0 (st5 s x y P) = (k : Int) := ⟨(chk 0 (st5 s x y P)).toNat, by omega⟩
  have hk2 : k ≤ 65535 := by omega
  have HCK := Lib.hid (fun W => implCheck 0 ⟨(st5 s x y P).toArray⟩ ⟨by decide, by decide⟩ (by show (st5 s x y P).toArray.size ≤ _; rw [List.size_toArray, st5_len]; omega) W)
  rw [show chk 0 (⟨(st5 s x y P).toArray⟩ : ByteArray).data.toList = (k : Int) from hk] at HCK
  have E6 : Hid (st6 s x y P = st5 s x y P ++ pairU k) := by show _ = _; unfold st6; rw [hk, Int.toNat_natCast]
  clear hk cb0 cb1
  go_enter Try.func112, Try.ntmps112
  have c0 := HV.out.c0
  have c1 := HV.out.c1
  have c2 := HV.out.c2
  have c3 := HV.out.c3
  go_wp2_with fail
  generalize w.alloc (.cells #[.string s, .int .i64 x, .int .i64 y, .slice A n c] 103) = b at *
  refine (HVS.out b).mono ?_
  rintro e w1 ⟨rfl, hb1⟩
  have HB1 := Lib.hid (HB.out.trans (hb1.out.mono HB.out.size))
  have V1 := Lib.hid (HV.out.below hb1.out)
  have R1 := Lib.hid (HR.out.carry hb1.out)
  clear c0 c1 c2 c3 hb1 HVS HV HR HB
  have c0 := V1.out.c0
  have c1 := V1.out.c1
  have c2 := V1.out.c2
  have c3 := V1.out.c3
  go_wp2_with fail
  refine (HPK.out w1 R1.out).mono ?_
  rintro e w2 ⟨rfl, hb2⟩
  have HB2 := Lib.hid (HB1.out.trans (hb2.out.mono HB1.out.size))
  have V2 := Lib.hid (V1.out.below hb2.out)
  clear c0 c1 c2 c3 hb2 HPK V1 R1 HB1
  have V3 := V2.out.below ((Below.refl w2.heap.size w2).alloc (Nat.le_refl _) (.cells #[.int .u8 83, .int .u8 72, .int .u8 80, .int .u8 49] 5 (4, 5)))
  have c0 := V3.c0
  have HH := Lib.hid (headW w2 (UInt8.ofNat s.size) (s.size : Int) HSV.out 5 (4, 5))
  clear V3
  go_wp2_with (first
    | (at_builtin; refine wpGroUC rfl _ _ rfl (G := w2.heap.size) (L := [83, 72, 80, 49]) (M := [UInt8.ofNat s.size]) HH.out.1 HH.out.2.1 (Nat.succ_pos _) rfl rfl rfl rfl (by simp) HH.out.2.2.size ?_; intro g1 k1 w3 O3 B3; have HO3 : Hid (GroU w3 w2.heap.size (st1 s) (some ⟨g1, 0, none⟩) k1) := O3; have HB3 := Lib.hid (HH.out.2.2.trans (B3.mono HH.out.2.2.size)); have d0 := (V2.out.low HB3.out V2.out.lt).c0; clear O3 B3 HH c0)
    | (at_builtin; refine wpGroUS rfl _ _ rfl HO3.out (Nat.succ_pos _) rfl rfl rfl (by rw [st1_len]; omega) HB3.out.size ?_; intro g2 k2 w4 O4 B4; have HO4 : Hid (GroU w4 w2.heap.size (st2 s) (some ⟨g2, 0, none⟩) k2) := O4; have HB4 := Lib.hid (HB3.out.trans B4); have d1 := (V2.out.low HB4.out V2.out.lt).c1; have d2 := (V2.out.low HB4.out V2.out.lt).c2; have HA := Lib.hid ((Below.refl w4.heap.size w4).alloc (Nat.le_refl _) (.cells #[.int .u8 x, .int .u8 y] 5)); have HM := Lib.hid (cells2 w4 (UInt8.ofNat x.toNat) (UInt8.ofNat y.toNat) x y HXV.out HYV.out 5); clear O4 B4 HO3 HB3 d0)
    | (at_builtin; refine wpGroUL rfl _ _ rfl (M := [UInt8.ofNat x.toNat, UInt8.ofNat y.toNat]) (HO4.out.below HA.out) HM.out (Nat.succ_pos _) rfl rfl (st2_len s).symm rfl (by rw [st2_len]; show 5 + s.size + 2 ≤ _; omega) (Nat.le_trans HB4.out.size HA.out.size) ?_; intro g3 k3 w5 O5 B5; have HO5 : Hid (GroU w5 w2.heap.size (st3 s x y) (some ⟨g3, 0, none⟩) k3) := O5; have HB5 := Lib.hid ((HB4.out.trans (HA.out.mono HB4.out.size)).trans B5); clear O5 B5 HO4 HB4 HA HM d1 d2))
  refine (implPair HO5.out (st3_len s x y).symm (by rw [st3_len]; omega) HB5.out.size (by omega)).mono ?_
  rintro e w6 ⟨g4, k4, rfl, HO6, hb6⟩
  have HB6 := Lib.hid (HB5.out.trans hb6.out)
  clear hb6 HO5 HB5
  go_wp2_with (at_builtin; refine wpGroUS rfl _ _ rfl HO6.out (by have := st4_len s x y P; unfold st4 at this; omega) rfl rfl (st4_len s x y P).symm (by have := st4_len s x y P; unfold st4 at this; rw [this, hps.out]; omega) HB6.out.size ?_; intro g5 k5 w7 O7 B7; have HO7 : Hid (GroU w7 w2.heap.size (st5 s x y P) (some ⟨g5, 0, none⟩) k5) := O7; have HB7 := Lib.hid (HB6.out.trans B7); have ht := HO7.out.text; rw [st5_len] at ht; clear O7 B7 HO6 HB6)
  refine (HCK.out w7).mono ?_
  rintro e w8 ⟨rfl, hb8⟩
  have HO8 := Lib.hid (HO7.out.below hb8)
  have HB8 := Lib.hid (HB7.out.trans (hb8.mono HB7.out.size))
  clear ht hb8 HO7 HB7 HCK
  go_wp2_with fail
  refine (implPair HO8.out (st5_len s x y P).symm (by rw [st5_len]; omega) HB8.out.size hk2).mono ?_
  rintro e w9 ⟨g6, k6, rfl, HO9, hb9⟩
  have HB9 := Lib.hid (HB2.out.trans ((HB8.out.trans hb9.out).mono HB2.out.size))
  have ht := HO9.out.text
  rw [List.length_append, st5_len, show (pairU k).length = 2 from rfl] at ht
  clear hb9 HO8 HB8 HO9
  go_wp2_with fail
  go_ret2
  exact ⟨by rw [E6.out]; rfl, HB9⟩

theorem cells4 (w : World) (y z u v : UInt8) (a b c d : Int) (ha : a = (y.toNat : Int)) (hb : b = (z.toNat : Int)) (hc : c = (u.toNat : Int)) (hd : d = (v.toNat : Int)) (t : TypeId) : ∀ j, j < [y, z, u, v].length → (w.alloc (.cells #[.int .u8 a, .int .u8 b, .int .u8 c, .int .u8 d] t)).cell? ⟨w.heap.size, 0 + j, none⟩ = some (uB (atU [y, z, u, v] j)) := by
  subst ha hb hc hd
  intro j hj
  rw [Nat.zero_add, Joins.cell_alloc_mark_at _ _ t (0, 0) _ j rfl]
  match j, hj with
  | 0, _ => rfl
  | 1, _ => rfl
  | 2, _ => rfl
  | 3, _ => rfl
theorem specCheckK (n : Int) (s : ByteArray) (hn : 0 ≤ n ∧ n < 65003) (hs : s.size ≤ 1048576) (w : World) :
    Calls Try.prog 184 #[.int .i64 n, .string s] w fun e w' => e = .returned (.int .i64 (chk n s.data.toList)) ∧ w = w' := (specCheck n s hn hs w).mono fun _ _ h => ⟨h.1, h.2.symm⟩
theorem VarS.s2 {w : World} {v : Nat} {s : ByteArray} {x y : Int} {A : Option Addr} {n c : Nat} (h : VarS w v s x y A n c) : w.cell? ⟨v, 1, none⟩ = some (.int .i64 x) ∧ w.cell? ⟨v, 2, none⟩ = some (.int .i64 y) ∧ Hid (VarS w v s x y A n c) := ⟨h.c1, h.c2, h⟩
theorem bytes_U (w : World) (s : ByteArray) : ∀ j, j < s.data.toList.length → (Lib.bytesWorld w 5 s).cell? ⟨w.heap.size, 0 + j, none⟩ = some (uB (atU s.data.toList j)) := fun j hj => by
  rw [Nat.zero_add, Lib.bytesWorld_cell w 5 s j hj]; rfl
set_option maxHeartbeats 8000000 in
set_option maxRecDepth 100000 in
theorem specSto1 (v : Nat) (s : ByteArray) (x y : Int) (A : Option Addr) (n c : Nat) (p : Nat → Bool) (w : World) (V : VarS w v s x y A n c) (hr : RowV w w.heap.size A n (bo p)) (hs : s.size ≤ 1048576) (hv : vsB s x y n = true) :
    Calls Try.prog 110 #[.pointer (some ⟨v, 0, none⟩)] w fun e w' => e = .returned (.string ⟨(st6 s x y (packU p n)).toArray⟩) ∧ Hid (Below w.heap.size w w') := by
  obtain ⟨⟨hs1, hs8⟩, hf⟩ := vsB_yes hv
  obtain ⟨⟨hx, hy⟩, hnn, hn1, hn2⟩ := fvB_yes hf
  obtain ⟨hp0, hp1⟩ := packU_bd (p := p) hn1 hn2
  have HPK := Lib.hid (fun W h => specPak A n c p W h hn2)
  have HV := Lib.hid V
  have HR := Lib.hid hr
  have hvlt := V.lt
  have c0 := (V.below ((Below.refl w.heap.size w).alloc (Nat.le_refl _) (.cells #[.int .u8 83, .int .u8 72, .int .u8 80, .int .u8 49] 5 (4, 5)))).c0
  have kc := fun (w : World) (C : Array Value) (n c : Nat) => Lib.run_convert_bytes_const (P := Try.prog) w 212 5 C n c Try.underlying212 Try.underlying5
  have hcv := fun (w : World) (s : ByteArray) => Lib.run_convert_string_bytes (P := Try.prog) w 9 212 5 s Try.underlying9 Try.underlying212 Try.underlying5
  obtain ⟨hx1, hx2⟩ := hx
  obtain ⟨hy1, hy2⟩ := hy
  have hsv : ((UInt8.ofNat s.size).toNat : Int) = (s.size : Int) := u8n (by omega)
  have hxv : ((UInt8.ofNat x.toNat).toNat : Int) = x := by rw [u8n (by omega)]; omega
  have hyv : ((UInt8.ofNat y.toNat).toNat : Int) = y := by rw [u8n (by omega)]; omega
  have HXV := Lib.hid hxv.symm
  have HYV := Lib.hid hyv.symm
  have HH := Lib.hid (headW w (UInt8.ofNat s.size) (s.size : Int) hsv.symm 5 (4, 5))
  clear hnn hr hv hf hsv hxv hyv V
  have hps : Hid ((⟨(packU p n).toArray⟩ : ByteArray).size = (packU p n).length) := rfl
  have hss : Hid (s.data.toList.length = s.size) := rfl
  generalize packU p n = P at *
  obtain ⟨cb0, cb1⟩ := chk_bd 0 (st5 s x y P) ⟨by decide, by decide⟩
  obtain ⟨k, hk⟩ : ∃ k : Nat, chk 0 (st5 s x y P) = (k : Int) := ⟨(chk 0 (st5 s x y P)).toNat, by omega⟩
  have hk2 : k ≤ 65535 := by omega
  have HCK := Lib.hid (fun W => specCheckK 0 ⟨(st5 s x y P).toArray⟩ ⟨by decide, by decide⟩ (by show (st5 s x y P).toArray.size ≤ _; rw [List.size_toArray, st5_len]; omega) W)
  rw [show chk 0 (⟨(st5 s x y P).toArray⟩ : ByteArray).data.toList = (k : Int) from hk] at HCK
  have E6 : Hid (st6 s x y P = st5 s x y P ++ pairU k) := by show _ = _; unfold st6; rw [hk, Int.toNat_natCast]
  clear hk cb0 cb1
  go_enter Try.func110, Try.ntmps110
  go_wp2_with (first
    | (at_builtin; refine wpGroUC rfl _ _ rfl (G := w.heap.size) (L := [83, 72, 80, 49]) (M := [UInt8.ofNat s.size]) HH.out.1 HH.out.2.1 (Nat.succ_pos _) rfl rfl rfl rfl (by simp) HH.out.2.2.size ?_; intro g1 k1 w3 O3 B3; have HO3 : Hid (GroU w3 w.heap.size (st1 s) (some ⟨g1, 0, none⟩) k1) := O3; have HB3 := Lib.hid (HH.out.2.2.trans (B3.mono HH.out.2.2.size)); have d0 := (HV.out.low HB3.out hvlt).c0; have HA := Lib.hid (below_bytes w3 5 s); clear O3 B3 HH c0)
    | (at_builtin; refine wpGroUL rfl _ _ rfl (M := s.data.toList) (HO3.out.below HA.out) (bytes_U w3 s) (by rw [hss.out]; omega) rfl rfl (st1_len s).symm rfl (by rw [st1_len, hss.out]; omega) (Nat.le_trans HB3.out.size HA.out.size) ?_; intro g2 k2 w4 O4 B4; have HO4 : Hid (GroU w4 w.heap.size (st2 s) (some ⟨g2, 0, none⟩) k2) := O4; have HB4 := Lib.hid ((HB3.out.trans (HA.out.mono HB3.out.size)).trans B4); have d3 := (HV.out.low HB4.out hvlt).c3; clear O4 B4 HO3 HB3 d0 HA))
  refine (HPK.out w4 ((HR.out.below HB4.out).mono HB4.out.size)).mono ?_
  rintro e w5 ⟨rfl, hb5⟩
  have HO5 := Lib.hid (HO4.out.below hb5.out)
  have HB5 := Lib.hid (HB4.out.trans (hb5.out.mono HB4.out.size))
  clear hb5 HO4 HB4 HPK d3
  have V5 := HV.out.low HB5.out hvlt
  have K0 := Lib.hid (V5.below (Below.refl w5.heap.size w5).drew)
  have v1 := V5.c1
  have v2 := V5.c2
  have HA5 : Hid (Below w5.heap.size w5 (w5.alloc (.cells #[.int .u8 (IntKind.u8.wrap x), .int .u8 (IntKind.u8.wrap y), .int .u8 (IntKind.u8.wrap ((P.length : Int).tmod 256)), .int .u8 (IntKind.u8.wrap (IntKind.i64.wrap ((P.length : Int) / 256)))] 5)).drew) := ((Below.refl w5.heap.size w5).alloc (Nat.le_refl _) _).drew
  have HM5 : Hid (∀ j, j < [UInt8.ofNat x.toNat, UInt8.ofNat y.toNat, UInt8.ofNat (P.length % 256), UInt8.ofNat (P.length / 256)].length → (w5.alloc (.cells #[.int .u8 (IntKind.u8.wrap x), .int .u8 (IntKind.u8.wrap y), .int .u8 (IntKind.u8.wrap ((P.length : Int).tmod 256)), .int .u8 (IntKind.u8.wrap (IntKind.i64.wrap ((P.length : Int) / 256)))] 5)).drew.cell? ⟨w5.heap.size, 0 + j, none⟩ = some (uB (atU [UInt8.ofNat x.toNat, UInt8.ofNat y.toNat, UInt8.ofNat (P.length % 256), UInt8.ofNat (P.length / 256)] j))) :=
    cells4 w5 (UInt8.ofNat x.toNat) (UInt8.ofNat y.toNat) (UInt8.ofNat (P.length % 256)) (UInt8.ofNat (P.length / 256)) _ _ _ _ (by rw [IntWalk.u8_in x (by omega)]; exact HXV.out) (by rw [IntWalk.u8_in y (by omega)]; exact HYV.out) (by rw [u8n (by omega), Int.tmod_eq_emod_of_nonneg (by omega), IntWalk.u8_in _ (by omega)]; omega) (by rw [u8n (by omega), IntWalk.i64_in _ (by omega), IntWalk.u8_in _ (by omega)]; omega) 5
  have HL5 : Hid ((st2 s).length + 4 ≤ 1048576) := by show _ ≤ _; rw [st2_len]; omega
  have HL4 : Hid (4 = [UInt8.ofNat x.toNat, UInt8.ofNat y.toNat, UInt8.ofNat (P.length % 256), UInt8.ofNat (P.length / 256)].length) := by show _ = _; rfl
  have HP4 : Hid (0 < [UInt8.ofNat x.toNat, UInt8.ofNat y.toNat, UInt8.ofNat (P.length % 256), UInt8.ofNat (P.length / 256)].length) := Nat.succ_pos _
  have V5H := Lib.hid V5
  clear V5
  go_wp2_with fail
  go_region_held_law (fun w' => w'.cell? ⟨v, 1, none⟩ = some (.int .i64 x) ∧ w'.cell? ⟨v, 2, none⟩ = some (.int .i64 y) ∧ Hid (VarS w' v s x y A n c)) (first | (exact K0.out.s2) | (exact (K0.out.below ((Below.refl _ _).alloc (Nat.le_refl _) _)).s2) | (exact (V5H.out.below HA5.out).s2) | (exact K6.out.s2) | go_keep)
    ((refine stepGroUL rfl _ _ rfl (HO5.out.below HA5.out) HM5.out HP4.out (by simp [Act.eval]) (by simp [Act.eval]) (st2_len s).symm HL4.out HL5.out (Nat.le_trans HB5.out.size HA5.out.size) ?_; intro g3 k3 w6 O6 B6; have K6 := Lib.hid ((V5H.out.below HA5.out).low B6 hvlt); have HO6 : Hid (GroU w6 w.heap.size (st4 s x y P) (some ⟨g3, 0, none⟩) k3) := by { have e : st4 s x y P = st2 s ++ ([UInt8.ofNat x.toNat, UInt8.ofNat y.toNat] ++ pairU P.length) := List.append_assoc _ _ _; rw [e]; exact O6 }; have HB6 := Lib.hid (HB5.out.trans ((HA5.out.mono HB5.out.size).trans B6)); clear O6 B6))
  rename_i hh
  clear hh
  have HA6 := Lib.hid (below_bytes w6 5 ⟨P.toArray⟩)
  have HU6 : Hid (∀ j, j < P.length → (Lib.bytesWorld w6 5 ⟨P.toArray⟩).cell? ⟨w6.heap.size, 0 + j, none⟩ = some (uB (atU P j))) := bytes_U w6 ⟨P.toArray⟩
  clear v1 v2 K0 K6 HA5 HM5 HO5 HB5 HL5 HL4 HP4 V5H
  go_wp2_with (first
    | (at_builtin; refine wpGroUL rfl _ _ rfl (M := P) (HO6.out.below HA6.out) HU6.out hp0 rfl rfl (st4_len s x y P).symm rfl (by rw [st4_len]; omega) (Nat.le_trans HB6.out.size HA6.out.size) ?_; intro g5 k5 w7 O7 B7; have HO7 : Hid (GroU w7 w.heap.size (st5 s x y P) (some ⟨g5, 0, none⟩) k5) := O7; have HB7 := Lib.hid ((HB6.out.trans (HA6.out.mono HB6.out.size)).trans B7); have ht := HO7.out.text; rw [st5_len] at ht; have HA7 := Lib.hid ((Below.refl w7.heap.size w7).alloc (Nat.le_refl _) (.cells #[.int .u8 ((k : Int) % 256), .int .u8 ((k : Int) / 256)] 5)); have HM7 := Lib.hid (cells2 w7 (UInt8.ofNat (k % 256)) (UInt8.ofNat (k / 256)) ((k : Int) % 256) ((k : Int) / 256) (by rw [u8n (by omega)]; omega) (by rw [u8n (by omega)]; omega) 5); clear O7 B7 HO6 HB6 HA6 HU6)
    | (go_at_call 184; refine (HCK.out _).mono ?_; rintro e w' ⟨rfl, rfl⟩)
    | (at_builtin; refine wpGroUL rfl _ _ rfl (M := pairU k) (HO7.out.below HA7.out) HM7.out (Nat.succ_pos _) rfl rfl (st5_len s x y P).symm rfl (by rw [st5_len]; show _ + 2 ≤ _; omega) (Nat.le_trans HB7.out.size HA7.out.size) ?_; intro g6 k6 w8 O8 B8; have HB8 := Lib.hid ((HB7.out.trans (HA7.out.mono HB7.out.size)).trans B8); have ht8 := O8.text; rw [List.length_append, st5_len] at ht8; clear O8 B8 HO7 HB7 HA7 HM7 ht))
  go_ret
  exact ⟨by rw [E6.out]; rfl, HB8⟩



theorem implShsNo (s : ByteArray) (x y : Int) (A : Option Addr) (n c : Nat) (w : World) (hs : s.size ≤ 1048576) (hn : n ≤ 1048576) (hv : vsB s x y n = false) :
    Calls Try.prog 112 #[.agg #[.string s, .int .i64 x, .int .i64 y, .slice A n c]] w fun e w' => e = .returned (.tuple #[.string ⟨#[]⟩, .bool false]) ∧ Hid (Below w.heap.size w w') := by
  have HB := Lib.hid (below_varS w s x y A n c 103)
  have V0 := varS_new w s x y A n c 103
  have HC := Lib.hid (fun W => implVs s x y A n c W hs hn)
  rw [hv] at HC
  have c0 := V0.c0
  have c1 := V0.c1
  have c2 := V0.c2
  have c3 := V0.c3
  clear hv V0
  go_enter Try.func112, Try.ntmps112
  go_wp2_with fail
  generalize w.alloc (.cells #[.string s, .int .i64 x, .int .i64 y, .slice A n c] 103) = b at *
  refine (HC.out b).mono ?_
  rintro e w1 ⟨rfl, hb⟩
  have HB1 := Lib.hid (HB.out.trans (hb.out.mono HB.out.size))
  clear HC hb c0 c1 c2 c3
  go_wp2_with fail
  go_ret2
  exact ⟨rfl, HB1⟩


end Go.Proofs.Yteojpmnnpinpeaa
