/-
  What is proved here: whether a shape that lies anywhere in its block is valid, and its bytes, as the model tells them, as walks. Conditions: a shape that a machine can hold.
-/
import Derived.Test.YteojpmnnpinpeaaGrl
import Derived.Test.YteojpmnnpinpeaaShs
namespace Go.Proofs.Yteojpmnnpinpeaa
open Go.RowKit
set_option linter.unusedVariables false

/-- a shape that lies at a place of a block -/
structure VarQ (w : World) (v o : Nat) (s : ByteArray) (x y : Int) (A : Option Addr) (n c : Nat) : Prop where
  lt : v < w.heap.size
  c0 : w.cell? ⟨v, o, none⟩ = some (.string s)
  c1 : w.cell? ⟨v, o + 1, none⟩ = some (.int .i64 x)
  c2 : w.cell? ⟨v, o + 2, none⟩ = some (.int .i64 y)
  c3 : w.cell? ⟨v, o + 3, none⟩ = some (.slice A n c)
theorem VarQ.low {w w' : World} {v o G : Nat} {s : ByteArray} {x y : Int} {A : Option Addr} {n c : Nat} (h : VarQ w v o s x y A n c) (hb : Below G w w') (hv : v < G) : VarQ w' v o s x y A n c := by
  have e : w'.heap[v]? = w.heap[v]? := hb.block v hv
  exact ⟨Nat.lt_of_lt_of_le h.lt hb.size, by rw [World.cell?_of_block (w := w) e]; exact h.c0, by rw [World.cell?_of_block (w := w) e]; exact h.c1, by rw [World.cell?_of_block (w := w) e]; exact h.c2, by rw [World.cell?_of_block (w := w) e]; exact h.c3⟩
theorem VarQ.below {w w' : World} {v o : Nat} {s : ByteArray} {x y : Int} {A : Option Addr} {n c : Nat} (h : VarQ w v o s x y A n c) (hb : Below w.heap.size w w') : VarQ w' v o s x y A n c := h.low hb h.lt
theorem VarQ.s2 {w : World} {v o : Nat} {s : ByteArray} {x y : Int} {A : Option Addr} {n c : Nat} (h : VarQ w v o s x y A n c) : w.cell? ⟨v, o + 1, none⟩ = some (.int .i64 x) ∧ w.cell? ⟨v, o + 2, none⟩ = some (.int .i64 y) ∧ Hid (VarQ w v o s x y A n c) := ⟨h.c1, h.c2, h⟩

set_option maxRecDepth 100000 in
theorem specIs1o (v o : Nat) (x y : Int) (A : Option Addr) (n c : Nat) (w : World) (c0 : w.cell? ⟨v, o, none⟩ = some (.int .i64 x)) (c1 : w.cell? ⟨v, o + 1, none⟩ = some (.int .i64 y)) (c2 : w.cell? ⟨v, o + 2, none⟩ = some (.slice A n c)) (hn : n ≤ 1048576) :
    Calls Try.prog 76 #[.pointer (some ⟨v, o, none⟩)] w fun e w' => e = .returned (.bool (fvB x y n)) ∧ ∃ k, w' = w.drewN k := by
  have HS := Lib.hid (fun W => specSides x y W)
  cases h1 : sidB x y
  · have N := Lib.hid (fvB_1 (n := n) h1)
    rw [h1] at HS
    clear h1
    go_enter Try.func76, Try.ntmps76
    go_wp2_with fail
    go_quiet ((go_at_call 171; refine (HS.out _).mono ?_; rintro e w' ⟨rfl, rfl⟩; exact ⟨rfl, _, rfl⟩))
    go_wp2_with fail
    go_ret
    exact ⟨by rw [N.out]; rfl, _, rfl⟩
  · have N := Lib.hid (fvB_2 (n := n) h1)
    have hw := sid_in h1
    rw [h1] at HS
    clear h1
    go_enter Try.func76, Try.ntmps76
    go_wp2_with fail
    go_quiet ((go_at_call 171; refine (HS.out _).mono ?_; rintro e w' ⟨rfl, rfl⟩; exact ⟨rfl, _, rfl⟩))
    go_wp2_with fail
    go_ret
    exact ⟨by rw [N.out]; rfl, _, rfl⟩

set_option maxRecDepth 100000 in
theorem specSho (v o : Nat) (s : ByteArray) (x y : Int) (A : Option Addr) (n c : Nat) (w : World) (V : VarQ w v o s x y A n c) (hs : s.size ≤ 1048576) (hn : n ≤ 1048576) :
    Calls Try.prog 109 #[.pointer (some ⟨v, o, none⟩)] w fun e w' => e = .returned (.bool (vsB s x y n)) ∧ ∃ k, w' = w.drewN k := by
  obtain ⟨hx, c0, c1, c2, c3⟩ := V
  have HN := Lib.hid (specName s hs)
  have HI := Lib.hid (specIs1o v (o + 1) x y A n c w c1 c2 c3 hn)
  cases h1 : nameB s
  · have N : Hid (vsB s x y n = false) := by show _ = _; unfold vsB; rw [h1]; rfl
    rw [h1] at HN
    clear h1
    go_enter Try.func109, Try.ntmps109
    go_wp2_with (go_at_call 182; refine (HN.out _).mono ?_; rintro e w' ⟨rfl, rfl⟩)
    go_ret
    exact ⟨by rw [N.out]; rfl, 0, rfl⟩
  · have N : Hid (vsB s x y n = fvB x y n) := by show _ = _; unfold vsB; rw [h1]; rfl
    rw [h1] at HN
    clear h1
    go_enter Try.func109, Try.ntmps109
    go_wp2_with (first | (go_at_call 182; refine (HN.out _).mono ?_; rintro e w' ⟨rfl, rfl⟩) | (go_at_call 76; refine HI.out.mono ?_; rintro e w' ⟨rfl, k, rfl⟩))
    go_ret
    exact ⟨by rw [N.out]; rfl, _, rfl⟩

set_option maxHeartbeats 8000000 in
set_option maxRecDepth 100000 in
theorem specSto1o (v o : Nat) (s : ByteArray) (x y : Int) (A : Option Addr) (n c : Nat) (p : Nat → Bool) (w : World) (V : VarQ w v o s x y A n c) (hr : RowV w w.heap.size A n (bo p)) (hs : s.size ≤ 1048576) (hv : vsB s x y n = true) :
    Calls Try.prog 110 #[.pointer (some ⟨v, o, none⟩)] w fun e w' => e = .returned (.string ⟨(st6 s x y (packU p n)).toArray⟩) ∧ Hid (Below w.heap.size w w') := by
  obtain ⟨⟨hs1, hs8⟩, hf⟩ := vsB_yes hv
  obtain ⟨⟨hx, hy⟩, hnn, hn1, hn2⟩ := fvB_yes hf
  obtain ⟨hp0, hp1⟩ := packU_bd (p := p) hn1 hn2
  have HPK := Lib.hid (fun W h => specPak A n c p W h hn2)
  have HV := Lib.hid V
  have HR := Lib.hid hr
  have hvlt := V.lt
  have c0 := (V.below ((Below.refl w.heap.size w).alloc (Nat.le_refl _) (.cells #[.int .u8 83, .int .u8 72, .int .u8 80, .int .u8 49] 5 (4, 5)))).c0
  have kc := fun (w : World) (C : Array Value) (n c : Nat) => Lib.run_convert_bytes_const (P := Try.prog) w 212 5 C n c Try.underlying212 Try.underlying5
  have hcv := fun (w : World) (s : ByteArray) => Lib.run_convert_string_bytes (P := Try.prog) w 9 212 5 s Try.underlying9 Try.underlying212 Try.underlying5
  obtain ⟨hx1, hx2⟩ := hx
  obtain ⟨hy1, hy2⟩ := hy
  have hsv : ((UInt8.ofNat s.size).toNat : Int) = (s.size : Int) := u8n (by omega)
  have hxv : ((UInt8.ofNat x.toNat).toNat : Int) = x := by rw [u8n (by omega)]; omega
  have hyv : ((UInt8.ofNat y.toNat).toNat : Int) = y := by rw [u8n (by omega)]; omega
  have HXV := Lib.hid hxv.symm
  have HYV := Lib.hid hyv.symm
  have HH := Lib.hid (headW w (UInt8.ofNat s.size) (s.size : Int) hsv.symm 5 (4, 5))
  clear hnn hr hv hf hsv hxv hyv V
  have hps : Hid ((⟨(packU p n).toArray⟩ : ByteArray).size = (packU p n).length) := rfl
  have hss : Hid (s.data.toList.length = s.size) := rfl
  generalize packU p n = P at *
  obtain ⟨cb0, cb1⟩ := chk_bd 0 (st5 s x y P) ⟨by decide, by decide⟩
  obtain ⟨k, hk⟩ : ∃ k : Nat, chk 0 (st5 s x y P) = (k : Int) := ⟨(chk 0 (st5 s x y P)).toNat, by omega⟩
  have hk2 : k ≤ 65535 := by omega
  have HCK := Lib.hid (fun W => specCheckK 0 ⟨(st5 s x y P).toArray⟩ ⟨by decide, by decide⟩ (by show (st5 s x y P).toArray.size ≤ _; rw [List.size_toArray, st5_len]; omega) W)
  rw [show chk 0 (⟨(st5 s x y P).toArray⟩ : ByteArray).data.toList = (k : Int) from hk] at HCK
  have E6 : Hid (st6 s x y P = st5 s x y P ++ pairU k) := by show _ = _; unfold st6; rw [hk, Int.toNat_natCast]
  clear hk cb0 cb1
  go_enter Try.func110, Try.ntmps110
  go_wp2_with (first
    | (at_builtin; refine wpGroUC rfl _ _ rfl (G := w.heap.size) (L := [83, 72, 80, 49]) (M := [UInt8.ofNat s.size]) HH.out.1 HH.out.2.1 (Nat.succ_pos _) rfl rfl rfl rfl (by simp) HH.out.2.2.size ?_; intro g1 k1 w3 O3 B3; have HO3 : Hid (GroU w3 w.heap.size (st1 s) (some ⟨g1, 0, none⟩) k1) := O3; have HB3 := Lib.hid (HH.out.2.2.trans (B3.mono HH.out.2.2.size)); have d0 := (HV.out.low HB3.out hvlt).c0; have HA := Lib.hid (below_bytes w3 5 s); clear O3 B3 HH c0)
    | (at_builtin; refine wpGroUL rfl _ _ rfl (M := s.data.toList) (HO3.out.below HA.out) (bytes_U w3 s) (by rw [hss.out]; omega) rfl rfl (st1_len s).symm rfl (by rw [st1_len, hss.out]; omega) (Nat.le_trans HB3.out.size HA.out.size) ?_; intro g2 k2 w4 O4 B4; have HO4 : Hid (GroU w4 w.heap.size (st2 s) (some ⟨g2, 0, none⟩) k2) := O4; have HB4 := Lib.hid ((HB3.out.trans (HA.out.mono HB3.out.size)).trans B4); have d3 := (HV.out.low HB4.out hvlt).c3; clear O4 B4 HO3 HB3 d0 HA))
  refine (HPK.out w4 ((HR.out.below HB4.out).mono HB4.out.size)).mono ?_
  rintro e w5 ⟨rfl, hb5⟩
  have HO5 := Lib.hid (HO4.out.below hb5.out)
  have HB5 := Lib.hid (HB4.out.trans (hb5.out.mono HB4.out.size))
  clear hb5 HO4 HB4 HPK d3
  have V5 := HV.out.low HB5.out hvlt
  have K0 := Lib.hid (V5.below (Below.refl w5.heap.size w5).drew)
  have v1 := V5.c1
  have v2 := V5.c2
  have HA5 : Hid (Below w5.heap.size w5 (w5.alloc (.cells #[.int .u8 (IntKind.u8.wrap x), .int .u8 (IntKind.u8.wrap y), .int .u8 (IntKind.u8.wrap ((P.length : Int).tmod 256)), .int .u8 (IntKind.u8.wrap (IntKind.i64.wrap ((P.length : Int) / 256)))] 5)).drew) := ((Below.refl w5.heap.size w5).alloc (Nat.le_refl _) _).drew
  have HM5 : Hid (∀ j, j < [UInt8.ofNat x.toNat, UInt8.ofNat y.toNat, UInt8.ofNat (P.length % 256), UInt8.ofNat (P.length / 256)].length → (w5.alloc (.cells #[.int .u8 (IntKind.u8.wrap x), .int .u8 (IntKind.u8.wrap y), .int .u8 (IntKind.u8.wrap ((P.length : Int).tmod 256)), .int .u8 (IntKind.u8.wrap (IntKind.i64.wrap ((P.length : Int) / 256)))] 5)).drew.cell? ⟨w5.heap.size, 0 + j, none⟩ = some (uB (atU [UInt8.ofNat x.toNat, UInt8.ofNat y.toNat, UInt8.ofNat (P.length % 256), UInt8.ofNat (P.length / 256)] j))) :=
    cells4 w5 (UInt8.ofNat x.toNat) (UInt8.ofNat y.toNat) (UInt8.ofNat (P.length % 256)) (UInt8.ofNat (P.length / 256)) _ _ _ _ (by rw [IntWalk.u8_in x (by omega)]; exact HXV.out) (by rw [IntWalk.u8_in y (by omega)]; exact HYV.out) (by rw [u8n (by omega), Int.tmod_eq_emod_of_nonneg (by omega), IntWalk.u8_in _ (by omega)]; omega) (by rw [u8n (by omega), IntWalk.i64_in _ (by omega), IntWalk.u8_in _ (by omega)]; omega) 5
  have HL5 : Hid ((st2 s).length + 4 ≤ 1048576) := by show _ ≤ _; rw [st2_len]; omega
  have HL4 : Hid (4 = [UInt8.ofNat x.toNat, UInt8.ofNat y.toNat, UInt8.ofNat (P.length % 256), UInt8.ofNat (P.length / 256)].length) := by show _ = _; rfl
  have HP4 : Hid (0 < [UInt8.ofNat x.toNat, UInt8.ofNat y.toNat, UInt8.ofNat (P.length % 256), UInt8.ofNat (P.length / 256)].length) := Nat.succ_pos _
  have V5H := Lib.hid V5
  clear V5
  go_wp2_with fail
  go_region_held_law (fun w' => w'.cell? ⟨v, o + 1, none⟩ = some (.int .i64 x) ∧ w'.cell? ⟨v, o + 2, none⟩ = some (.int .i64 y) ∧ Hid (VarQ w' v o s x y A n c)) (first | (exact K0.out.s2) | (exact (K0.out.below ((Below.refl _ _).alloc (Nat.le_refl _) _)).s2) | (exact (V5H.out.below HA5.out).s2) | (exact K6.out.s2) | go_keep)
    ((refine stepGroUL rfl _ _ rfl (HO5.out.below HA5.out) HM5.out HP4.out (by simp [Act.eval]) (by simp [Act.eval]) (st2_len s).symm HL4.out HL5.out (Nat.le_trans HB5.out.size HA5.out.size) ?_; intro g3 k3 w6 O6 B6; have K6 := Lib.hid ((V5H.out.below HA5.out).low B6 hvlt); have HO6 : Hid (GroU w6 w.heap.size (st4 s x y P) (some ⟨g3, 0, none⟩) k3) := by { have e : st4 s x y P = st2 s ++ ([UInt8.ofNat x.toNat, UInt8.ofNat y.toNat] ++ pairU P.length) := List.append_assoc _ _ _; rw [e]; exact O6 }; have HB6 := Lib.hid (HB5.out.trans ((HA5.out.mono HB5.out.size).trans B6)); clear O6 B6))
  rename_i hh
  clear hh
  have HA6 := Lib.hid (below_bytes w6 5 ⟨P.toArray⟩)
  have HU6 : Hid (∀ j, j < P.length → (Lib.bytesWorld w6 5 ⟨P.toArray⟩).cell? ⟨w6.heap.size, 0 + j, none⟩ = some (uB (atU P j))) := bytes_U w6 ⟨P.toArray⟩
  clear v1 v2 K0 K6 HA5 HM5 HO5 HB5 HL5 HL4 HP4 V5H
  go_wp2_with (first
    | (at_builtin; refine wpGroUL rfl _ _ rfl (M := P) (HO6.out.below HA6.out) HU6.out hp0 rfl rfl (st4_len s x y P).symm rfl (by rw [st4_len]; omega) (Nat.le_trans HB6.out.size HA6.out.size) ?_; intro g5 k5 w7 O7 B7; have HO7 : Hid (GroU w7 w.heap.size (st5 s x y P) (some ⟨g5, 0, none⟩) k5) := O7; have HB7 := Lib.hid ((HB6.out.trans (HA6.out.mono HB6.out.size)).trans B7); have ht := HO7.out.text; rw [st5_len] at ht; have HA7 := Lib.hid ((Below.refl w7.heap.size w7).alloc (Nat.le_refl _) (.cells #[.int .u8 ((k : Int) % 256), .int .u8 ((k : Int) / 256)] 5)); have HM7 := Lib.hid (cells2 w7 (UInt8.ofNat (k % 256)) (UInt8.ofNat (k / 256)) ((k : Int) % 256) ((k : Int) / 256) (by rw [u8n (by omega)]; omega) (by rw [u8n (by omega)]; omega) 5); clear O7 B7 HO6 HB6 HA6 HU6)
    | (go_at_call 184; refine (HCK.out _).mono ?_; rintro e w' ⟨rfl, rfl⟩)
    | (at_builtin; refine wpGroUL rfl _ _ rfl (M := pairU k) (HO7.out.below HA7.out) HM7.out (Nat.succ_pos _) rfl rfl (st5_len s x y P).symm rfl (by rw [st5_len]; show _ + 2 ≤ _; omega) (Nat.le_trans HB7.out.size HA7.out.size) ?_; intro g6 k6 w8 O8 B8; have HB8 := Lib.hid ((HB7.out.trans (HA7.out.mono HB7.out.size)).trans B8); have ht8 := O8.text; rw [List.length_append, st5_len] at ht8; clear O8 B8 HO7 HB7 HA7 HM7 ht))
  go_ret
  exact ⟨by rw [E6.out]; rfl, HB8⟩

end Go.Proofs.Yteojpmnnpinpeaa
