/-
  What is proved here: the pairs of places of a sheet, as the program tells them, as a walk. Conditions: a sheet, a lag from 1 to 17.
-/
import Derived.Test.YtfjahgojmiednaaVap
import Derived.Test.YtfjahgojmiednaaGrp
namespace Go.Proofs.Ytfjahgojmiednaa
open Flt Go.RowKit
attribute [local go_sem] run_store_float
set_option linter.unusedVariables false

/-- an operation that appends pairs -/
theorem isAppP {ops : Array Oper} {rest : List Oper} {o : Oper} {a : Act} {Q : Exit → Act → World → Prop} {w : World} (s x : Operand)
    (ho : o.op = .call { callee := .builtin .append, args := #[s, x], argTypes := #[57, 57] }) (h : wpList Try.prog ops Q (o :: rest) a w) : wpList Try.prog ops Q (o :: rest) a w := h
theorem GroP.lower {w : World} {G G' W c : Nat} {zs : List Nat} {L : List (Nat × Nat × Bool)} {A : Option Addr} (h : GroP w G W zs L A c) (hG : G' ≤ G) : GroP w G' W zs L A c :=
  ⟨h.1, h.2.elim .inl fun ⟨g, cap, cur, h1, h2, h3⟩ => .inr ⟨g, cap, cur, h1, Nat.le_trans hG h2, h3⟩⟩
/-- a local variable that holds a way -/
structure WayV (w : World) (Z : Nat) (p q : Int) : Prop where
  lt : Z < w.heap.size
  c0 : w.cell? ⟨Z, 0, none⟩ = some (.int .i64 p)
  c1 : w.cell? ⟨Z, 1, none⟩ = some (.int .i64 q)
theorem wayV_new (w : World) (p q : Int) (t : TypeId) : WayV (w.alloc (.cells #[.int .i64 p, .int .i64 q] t)) w.heap.size p q := by
  refine ⟨by simp, ?_, ?_⟩ <;> simp [World.cell?, World.alloc, -World.alloc_eq]
/-- a row of pairs that grows, beside a way -/
structure PrS (w a0 : World) (G W : Nat) (zs : List Nat) (L : List (Nat × Nat × Bool)) (A : Option Addr) (c Z : Nat) (p q : Int) : Prop where
  own : GroP w G W zs L A c
  bel : Below G a0 w
  way : WayV w Z p q
  far : ∀ a, A = some a → a.block ≠ Z
theorem PrS.start {w a0 : World} {G W c : Nat} {zs : List Nat} {L : List (Nat × Nat × Bool)} {A : Option Addr} (o : GroP w G W zs L A c) (b : Below G a0 w) (hG : G ≤ w.heap.size) (p q : Int) (t : TypeId) :
    PrS (w.alloc (.cells #[.int .i64 p, .int .i64 q] t)) a0 G W zs L A c w.heap.size p q :=
  ⟨o.below ((Below.refl _ _).alloc (Nat.le_refl _) _), b.trans ((Below.refl _ _).alloc hG _), wayV_new w p q t, fun a ha => by have := (o.lt a ha).2; omega⟩
/-- an append of one, as a step of a walk, beside a way -/
theorem wpGroQ {ops : Array Oper} {rest : List Oper} {o : Oper} {a : Act} {Q : Exit → Act → World → Prop} (hgd : o.guard = none) (s x : Operand)
    (ho : o.op = .call { callee := .builtin .append, args := #[s, x], argTypes := #[57, 57] })
    {w w0 a0 : World} {G W c Z : Nat} {u v : Int} {zs : List Nat} {p : Nat × Nat × Bool} {cs : Array Value} {L : List (Nat × Nat × Bool)} {A : Option Addr} (hO : PrS w0 a0 G W zs L A c Z u v) (hcs : cs = pcA W zs p) (hw : w = w0.alloc (.cells cs 62)) (hs : a.eval s = .slice A L.length c) (hx : a.eval x = .slice (some ⟨w0.heap.size, 0, none⟩) 1 1) (hL : L.length ≤ 1048576) (hG : G ≤ w0.heap.size)
    (h : ∀ g' c' w', PrS w' a0 G W zs (L ++ [p]) (some ⟨g', 0, none⟩) c' Z u v → wpList Try.prog ops Q rest (a.put o.dst (.slice (some ⟨g', 0, none⟩) (L.length + 1) c')) w') :
    wpList Try.prog ops Q (o :: rest) a w := by
  subst hw hcs
  obtain ⟨i0, hi, hz0, hz1, hz2⟩ := info_parts info_pair
  have hal : GroP (w0.alloc (.cells (pcA W zs p) 62)) G W zs L A c := hO.own.below ((Below.refl _ _).alloc (Nat.le_refl _) _)
  have hba : Below w0.heap.size w0 (w0.alloc (.cells (pcA W zs p) 62)) := (Below.refl _ _).alloc (Nat.le_refl _) _
  refine wpList_append_lies _ hgd s x 57 ho G 62 i0 (.agg #[.int .i64 0, .int .i64 0, .bool false, .float .f32 0, .float .f32 0]) 5 32 Try.underlying57 hi hz0 hz1 hz2 rfl (by decide) _ L.length (pcL W zs L) hs hal ⟨w0.heap.size, 0, none⟩ 1 1 (pcA W zs p).toList hx rfl (World.ownsRow.cells (World.ownsRow_lit (base := G) (e := 62) (size := 5) w0 (pcA W zs p) 1 hG (by decide) rfl) rfl) (by intro u hu; simp [pcA] at hu; rcases hu with rfl | rfl | rfl | rfl | rfl <;> rfl) (by decide) (by unfold maxLen; omega) (by omega) (by simp; omega) _ rfl ?_
  intro g' cap w' h1 h2 h3 h4
  have hlt := hO.way.lt
  have hA : ∀ k, (Value.slice A L.length c).ownBlock = some k → G ≤ k ∧ k ≠ Z := by
    intro k hk
    rcases hO.own.cases with ⟨rfl, rfl, _⟩ | ⟨g, rfl⟩
    · cases hk
    · injection hk with hk
      have e : k = g := hk.symm
      have g1 := (hO.own.lt _ rfl).1
      have g2 := hO.far _ rfl
      subst e
      exact ⟨g1, g2⟩
  have hZ : w'.heap[Z]? = w0.heap[Z]? := by
    rw [h2.block Z (Nat.lt_of_lt_of_le hlt hba.size) (by intro e; exact (hA _ e.symm).2 rfl)]
    exact hba.block Z hlt
  refine h g' cap w' ⟨?_, hO.bel.trans (grownAtP hba h2 hG fun k hk => (hA k hk).1), ⟨Nat.lt_of_lt_of_le hlt (Nat.le_trans hba.size h2.size), ?_, ?_⟩, ?_⟩
  · unfold GroP
    rw [List.length_append, pcL_snoc]
    exact h1
  · rw [World.cell?_of_block (a := ⟨Z, 0, none⟩) hZ]; exact hO.way.c0
  · rw [World.cell?_of_block (a := ⟨Z, 1, none⟩) hZ]; exact hO.way.c1
  · intro a ha
    injection ha with ha
    subst ha
    show g' ≠ Z
    rcases h3 with h | h
    · exact (hA _ h).2
    · have : (w0.alloc (.cells (pcA W zs p) 62)).heap.size = w0.heap.size + 1 := by simp
      omega

theorem shB_xy3 {x y : Int} {zs : List Nat} (h : shB x y zs = true) : (1 ≤ x ∧ x ≤ 17) ∧ (1 ≤ y ∧ y ≤ 17) ∧ (zs.length : Int) = x * y ∧ x * y ≤ 289 := by
  unfold shB at h
  simp only [Bool.and_eq_true, beq_iff_eq] at h
  obtain ⟨h1, h2, h3, _⟩ := h
  exact ⟨inB_yes h1, inB_yes h2, h3, (prod_bd h1 h2).2⟩
theorem wx2 (w : World) (l : Int) (t : TypeId) : (w.alloc (.cells #[.int .i64 l, .int .i64 0, .int .i64 0, .int .i64 l] t)).cell? ⟨w.heap.size, 0, none⟩ = some (.int .i64 l) ∧ (w.alloc (.cells #[.int .i64 l, .int .i64 0, .int .i64 0, .int .i64 l] t)).cell? ⟨w.heap.size, 1, none⟩ = some (.int .i64 0) ∧ (w.alloc (.cells #[.int .i64 l, .int .i64 0, .int .i64 0, .int .i64 l] t)).cell? ⟨w.heap.size, 2, none⟩ = some (.int .i64 0) ∧ (w.alloc (.cells #[.int .i64 l, .int .i64 0, .int .i64 0, .int .i64 l] t)).cell? ⟨w.heap.size, 3, none⟩ = some (.int .i64 l) := by
  refine ⟨?_, ?_, ?_, ?_⟩ <;> simp [World.cell?, World.alloc, -World.alloc_eq]
theorem World.below_one (w : World) (o : Obj) : Below w.heap.size w (w.alloc o) := (Below.refl _ _).alloc (Nat.le_refl _) _
theorem VarT.low {w w' : World} {v G : Nat} {x y : Int} {A : Option Addr} {n c : Nat} (h : VarT w v x y A n c) (hb : Below G w w') (hv : v < G) : VarT w' v x y A n c :=
  ⟨Nat.lt_of_lt_of_le h.lt hb.size, by rw [hb.cell (p := ⟨v, 0, none⟩) hv]; exact h.c0, by rw [hb.cell (p := ⟨v, 1, none⟩) hv]; exact h.c1, by rw [hb.cell (p := ⟨v, 2, none⟩) hv]; exact h.c2⟩
theorem po_facts {x lg : Int} {W l : Nat} (hx : x = (W : Int)) (hl : lg = (l : Int)) (r t : Nat) : ∃ u u2 : Int, (r : Int) * x = u ∧ 0 ≤ u ∧ u + t = ((r * W + t : Nat) : Int) ∧ ((r : Int) + lg) * x = u2 ∧ 0 ≤ u2 ∧ u2 + t = ((r * W + t + l * W : Nat) : Int) ∧ (r * W + t + l : Nat) = ((r * W + t : Nat) : Int) + lg := by
  subst hx hl
  refine ⟨_, _, rfl, Int.mul_nonneg (by omega) (by omega), ?_, rfl, Int.mul_nonneg (by omega) (by omega), ?_, by omega⟩
  · rw [Int.natCast_add, Int.natCast_mul]
  · rw [Int.add_mul, Int.natCast_add, Int.natCast_add, Int.natCast_mul, Int.natCast_mul]; omega
theorem po_a {x y lg : Int} {W H l n r t : Nat} (hx : x = (W : Int)) (hy : y = (H : Int)) (hl : lg = (l : Int)) (hn : n = W * H) (ht : t < W - l) (hr : r < H) : r * W + t < n ∧ r * W + t + l < n ∧ (r * W + t) % W = t ∧ (r * W + t) / W = r := by
  have m : (r + 1) * W ≤ H * W := Nat.mul_le_mul_right W hr
  rw [Nat.add_mul, Nat.one_mul, Nat.mul_comm H W, ← hn] at m
  exact ⟨by omega, by omega, at_mod (by omega), at_div (by omega)⟩
theorem po_b {x y lg : Int} {W H l n r t : Nat} (hx : x = (W : Int)) (hy : y = (H : Int)) (hl : lg = (l : Int)) (hn : n = W * H) (ht : t < W) (hr : r < H - l) : r * W + t < n ∧ r * W + t + l * W < n ∧ (r * W + t) % W = t ∧ (r * W + t) / W = r := by
  have m : (r + l + 1) * W ≤ H * W := Nat.mul_le_mul_right W (by omega)
  rw [Nat.add_mul, Nat.add_mul, Nat.one_mul, Nat.mul_comm H W, ← hn] at m
  exact ⟨by omega, by omega, at_mod (by omega), at_div (by omega)⟩
def pHor (W lag k : Nat) : List (Nat × Nat × Bool) := (horS W lag k).map fun p => (p.1, p.2, false)
def pVer (W H lag n k : Nat) : List (Nat × Nat × Bool) := pHor W lag n ++ (verS W H lag k).map fun p => (p.1, p.2, true)
def pLst (W H lag n : Nat) : Nat → List (Nat × Nat × Bool)
  | 0 => []
  | 1 => pHor W lag n
  | _ => pVer W H lag n n
theorem pHor_len (W lag k : Nat) : (pHor W lag k).length ≤ k := by unfold pHor; rw [List.length_map]; exact horS_le _ _ _
theorem pVer_len (W H lag n k : Nat) : (pVer W H lag n k).length ≤ n + k := by
  unfold pVer; rw [List.length_append, List.length_map]
  have := pHor_len W lag n
  have := verS_le W H lag k
  omega


set_option maxHeartbeats 8000000 in
set_option maxRecDepth 1000000 in
theorem pairs_own (x y lg : Int) (A : Option Addr) (c : Nat) (zs : List Nat) (w : World) (hr : RowF w w.heap.size A zs) (h1 : shB x y zs = true) (hl : inB lg 1 17 = true) :
    Calls Try.prog 39 #[.agg #[.int .i64 x, .int .i64 y, .slice A zs.length c], .int .i64 lg] w fun e w' => ∃ A' c', e = .returned (.slice A' (pVer x.toNat y.toNat lg.toNat zs.length zs.length).length c') ∧ Hid (GroP w' w.heap.size x.toNat zs (pVer x.toNat y.toNat lg.toNat zs.length zs.length) A' c') ∧ Hid (Below w.heap.size w w') := by
  have hxy := shB_xy3 h1
  obtain ⟨⟨hx1, hx2⟩, ⟨hy1, hy2⟩, hn, hm⟩ := hxy
  obtain ⟨hl1, hl2⟩ := inB_yes hl
  clear h1 hl
  obtain ⟨W, eW⟩ := Int.eq_ofNat_of_zero_le (show 0 ≤ x by omega)
  obtain ⟨H, eH⟩ := Int.eq_ofNat_of_zero_le (show 0 ≤ y by omega)
  obtain ⟨l, el⟩ := Int.eq_ofNat_of_zero_le (show 0 ≤ lg by omega)
  rw [show x.toNat = W by omega, show y.toNat = H by omega, show lg.toNat = l by omega]
  have hnN : zs.length = W * H := by
    rw [eW, eH] at hn
    exact_mod_cast hn
  have hn289 : zs.length ≤ 289 := by omega
  have hn0 : 0 < zs.length := by rw [hnN]; exact Nat.mul_pos (by omega) (by omega)
  obtain ⟨b, off, rfl, hb, hcell⟩ := hr hn0
  have HX := Lib.hid eW
  have HY := Lib.hid eH
  have HL := Lib.hid el
  have HNN := Lib.hid hnN
  have B0 : Below w.heap.size w ((w.alloc (.cells #[.int .i64 x, .int .i64 y, .slice (some ⟨b, off, none⟩) zs.length c] 29)).alloc (.cells #[.int .i64 lg, .int .i64 0, .int .i64 0, .int .i64 lg] 94)) := ((Below.refl _ _).alloc (Nat.le_refl _) _).alloc (by simp) _
  have hW : Hid (_ ∧ _ ∧ _ ∧ _) := Lib.hid (wx2 (w.alloc (.cells #[.int .i64 x, .int .i64 y, .slice (some ⟨b, off, none⟩) zs.length c] 29)) lg 94)
  rw [show (w.alloc (.cells #[.int .i64 x, .int .i64 y, .slice (some ⟨b, off, none⟩) zs.length c] 29)).heap.size = w.heap.size + 1 by simp] at hW
  have HV := Lib.hid ((varT_new w x y (some ⟨b, off, none⟩) zs.length c 29).below (World.below_one _ (.cells #[.int .i64 lg, .int .i64 0, .int .i64 0, .int .i64 lg] 94)))
  have HB := Lib.hid B0
  have hsz : ((w.alloc (.cells #[.int .i64 x, .int .i64 y, .slice (some ⟨b, off, none⟩) zs.length c] 29)).alloc (.cells #[.int .i64 lg, .int .i64 0, .int .i64 0, .int .i64 lg] 94)).heap.size = w.heap.size + 2 := by simp
  have HC : Hid (∀ j, j < zs.length → ((w.alloc (.cells #[.int .i64 x, .int .i64 y, .slice (some ⟨b, off, none⟩) zs.length c] 29)).alloc (.cells #[.int .i64 lg, .int .i64 0, .int .i64 0, .int .i64 lg] 94)).cell? ⟨b, off + j, none⟩ = some (.float .f32 (at0 zs j))) := fun j hj => by rw [B0.cell (p := ⟨b, off + j, none⟩) hb]; exact hcell j hj
  clear hr hcell B0 eW eH el hn hm hnN
  go_enter Try.func39, Try.ntmps39
  go_wp2_with fail
  generalize ((w.alloc (.cells #[.int .i64 x, .int .i64 y, .slice (some ⟨b, off, none⟩) zs.length c] 29)).alloc (.cells #[.int .i64 lg, .int .i64 0, .int .i64 0, .int .i64 lg] 94)) = a0 at *
  generalize hX0 : w.heap.size = X at *
  have HX0 := Lib.hid hX0
  have hbG : b < a0.heap.size := by omega
  have hXG : X + 1 < a0.heap.size := by omega
  clear hX0
  generalize hG0 : a0.heap.size = G at *
  have HG := Lib.hid hG0
  have HXG := Lib.hid hsz
  clear hG0 hsz
  go_loopw [5, 18] (fun o i wr => ∃ (k : Nat) (A' : Option Addr) (c' : Nat), k ≤ 2 ∧ i = .int .i64 k ∧ o = .slice A' (pLst W H l zs.length k).length c' ∧ Hid (GroP wr G W zs (pLst W H l zs.length k) A' c') ∧ Hid (Below G a0 wr)) (fun _ i _ => 2 - (intOf i).toNat)
  case atStart => exact ⟨0, none, 0, by omega, rfl, rfl, GroP.nil _ _ _ _, Below.refl _ _⟩
  case round =>
    obtain ⟨k, A', c', hk, rfl, rfl, hO, hB⟩ := hrel
    have hGw : G ≤ wr.heap.size := by have := hB.out.size; have := HG.out; omega
    by_cases hlt : k < 2
    · obtain ⟨g0, g1, g2, g3⟩ := hW.out
      rw [← hB.out.cell (p := ⟨X + 1, 0, none⟩) hXG] at g0
      rw [← hB.out.cell (p := ⟨X + 1, 1, none⟩) hXG] at g1
      rw [← hB.out.cell (p := ⟨X + 1, 2, none⟩) hXG] at g2
      rw [← hB.out.cell (p := ⟨X + 1, 3, none⟩) hXG] at g3
      match k, hlt with
      | 0, _ =>
        have HP := Lib.hid (PrS.start hO.out hB.out hGw lg 0 94)
        have hB0 := hB
        clear hO hB
        have LZ : Hid (pLst W H l zs.length 0 = pHor W l 0) := rfl
        have LE : Hid (pLst W H l zs.length 1 = pHor W l (H * W)) := by show pHor W l zs.length = _; rw [HNN.out, Nat.mul_comm]
        have LS : Hid (∀ r t, t < (W - l) → r < H → pHor W l (r * W + t + 1) = pHor W l (r * W + t) ++ [(r * W + t, r * W + t + l, false)]) := fun r t ht hr => by unfold pHor; rw [hor_step (by omega), List.map_append]; rfl
        have LR : Hid (∀ r, r < H → pHor W l (r * W + (W - l)) = pHor W l ((r + 1) * W)) := fun r hr => by unfold pHor; rw [hor_row (by omega) (by omega)]
        have LN : Hid (∀ k, k ≤ zs.length → (pHor W l k).length ≤ 1048576) := fun k hk => Nat.le_trans (pHor_len _ _ _) (by omega)
        rw [LZ.out] at HP
        rw [LZ.out]
        clear LZ
        have VP := HV.out.low hB0.out (show X < G by omega)
        have q0 := VP.c0
        have q1 := VP.c1
        have q2 := VP.c2
        have ql := VP.lt
        clear VP
        go_wp2_with fail
        clear q0 q1 q2 ql g0 g1 g2 g3
        generalize hZ : wr.heap.size = Z at *
        generalize wr.alloc (.cells #[.int .i64 lg, .int .i64 0] 94) = b0 at *
        generalize hkv : ((0 : Nat) : Int) = kv
        have HKV := Lib.hid hkv
        obtain ⟨hkv0, hkv9⟩ : 0 ≤ kv ∧ kv ≤ 2 := by omega
        clear hZ hGw hB0 hkv
        go_loopw [5, 27] (fun o j wr => ∃ (r : Nat) (A' : Option Addr) (c' : Nat), r ≤ H ∧ j = .int .i64 r ∧ o = .slice A' (pHor W l (r * W)).length c' ∧ Hid (PrS wr a0 G W zs (pHor W l (r * W)) A' c' Z lg 0)) (fun _ j _ => H - (intOf j).toNat)
        case atStart => exact ⟨0, _, _, Nat.zero_le _, rfl, by rw [Nat.zero_mul], by rw [Nat.zero_mul]; exact HP⟩
        case round =>
          clear HP
          obtain ⟨r, A2, c2, hr, rfl, rfl, HP⟩ := hrel
          have VP := HV.out.low HP.out.bel (show X < G by omega)
          have q0 := VP.c0
          have q1 := VP.c1
          have q2 := VP.c2
          have ql := VP.lt
          have z0 := HP.out.way.c0
          have z1 := HP.out.way.c1
          have zl := HP.out.way.lt
          clear VP
          by_cases hlr : (r : Int) < y
          · have hr17 : r ≤ 17 := by omega
            have hrR : r < H := by have := HX.out; have := HY.out; have := HL.out; omega
            have HPR := Lib.hid HP.out
            clear HP
            go_wp2_with fail
            clear q0 q1 q2 ql z0 z1 zl
            go_loopw [5, 35] (fun o j wr => ∃ (t : Nat) (A' : Option Addr) (c' : Nat), t ≤ (W - l) ∧ j = .int .i64 t ∧ o = .slice A' (pHor W l (r * W + t)).length c' ∧ Hid (PrS wr a0 G W zs (pHor W l (r * W + t)) A' c' Z lg 0)) (fun _ j _ => (W - l) - (intOf j).toNat)
            case atStart => exact ⟨0, _, _, Nat.zero_le _, rfl, rfl, HPR⟩
            case round =>
              clear HPR
              obtain ⟨t, A3, c3, ht, rfl, rfl, HP⟩ := hrel
              have VP := HV.out.low HP.out.bel (show X < G by omega)
              have q0 := VP.c0
              have q1 := VP.c1
              have q2 := VP.c2
              have ql := VP.lt
              have z0 := HP.out.way.c0
              have z1 := HP.out.way.c1
              have zl := HP.out.way.lt
              clear VP
              by_cases hlt : (t : Int) < x - lg
              · have htT : t < (W - l) := by have := HX.out; have := HL.out; omega
                obtain ⟨hk1, hj1, hmod, hdiv⟩ : r * W + t < zs.length ∧ r * W + t + l < zs.length ∧ (r * W + t) % W = t ∧ (r * W + t) / W = r := po_a HX.out HY.out HL.out HNN.out htT hrR
                obtain ⟨u, u2, hu, hu0, hut, hv, hv0, hvt, hkl⟩ := po_facts HX.out HL.out r t
                have S := Lib.hid (LS.out r t htT hrR)
                have NK := Lib.hid (LN.out (r * W + t) (by omega))
                have e1 : wr.cell? ⟨b, off + (r * W + t), none⟩ = some (.float .f32 (at0 zs (r * W + t))) := by rw [HP.out.bel.cell (p := ⟨b, off + (r * W + t), none⟩) hbG]; exact HC.out _ hk1
                have e2 : wr.cell? ⟨b, off + (r * W + t + l), none⟩ = some (.float .f32 (at0 zs (r * W + t + l))) := by rw [HP.out.bel.cell (p := ⟨b, off + (r * W + t + l), none⟩) hbG]; exact HC.out _ hj1
                have hbw : b < wr.heap.size := Nat.lt_of_lt_of_le hbG (by have := HP.out.bel.size; have := HG.out; omega)
                have hGw : Hid (G ≤ wr.heap.size) := by show _ ≤ _; have := HP.out.bel.size; have := HG.out; omega
                have hs1 : Hid (r * W + (t + 1) = r * W + t + 1) := rfl
                generalize hj : r * W + t + l = j at *
                generalize hk : r * W + t = k at *
                have HS1 := Lib.hid hk
                have w1 : IntKind.i64.wrap ((r : Int) * x) = u := by rw [hu]; exact IntWalk.i64_in _ (by omega)
                have w2 : IntKind.i64.wrap (u + (t : Int)) = (k : Int) := by rw [hut]; exact IntWalk.i64_in _ (by omega)
                have w3 : IntKind.i64.wrap ((k : Int) + lg) = (j : Int) := by rw [← hkl]; exact IntWalk.i64_in _ (by omega)
                have HM := Lib.hid hmod
                have HD := Lib.hid hdiv
                have HU := Lib.hid (And.intro hu hv)
                clear hu hv hut hvt hkl hmod hdiv hj hk
                go_wp2_with (at_builtin; refine isAppP _ _ rfl ?_; refine wpGroQ rfl _ _ rfl (w0 := wr) (p := (k, j, false)) HP.out (by unfold pcA; rw [HM.out, HD.out]) rfl rfl (by first | rfl | simp [Act.eval]) NK.out hGw.out ?_; intro g5 c5 w5 P5; have HP5 := Lib.hid P5; clear P5)
                go_roundw
                case rel => exact ⟨t + 1, _, _, by omega, by go_num, by rw [hs1.out, S.out, List.length_append]; rfl, by rw [hs1.out, S.out]; exact HP5⟩
                case measure => simp [intOf]; omega
              · have et : t = (W - l) := by have := HX.out; have := HL.out; omega
                have S := Lib.hid (LR.out r hrR)
                rw [et] at HP hlt
                rw [et]
                clear et
                rw [S.out] at HP
                rw [S.out]
                go_wp2_with fail
                go_roundw
                case rel => exact ⟨r + 1, _, _, by omega, by go_num, rfl, HP⟩
                case measure => simp [intOf]; omega
          · have er : r = H := by have := HX.out; have := HY.out; have := HL.out; omega
            rw [er] at HP hlr
            rw [er]
            clear er
            rw [← LE.out] at HP
            rw [← LE.out]
            go_wp2_with fail
            go_roundw
            case rel => exact ⟨1, _, _, by omega, by rw [← HKV.out]; rfl, rfl, HP.out.own, HP.out.bel⟩
            case measure => rw [← HKV.out]; simp [intOf]
      | 1, _ =>
        have HP := Lib.hid (PrS.start hO.out hB.out hGw 0 lg 94)
        have hB0 := hB
        clear hO hB
        have LZ : Hid (pLst W H l zs.length 1 = pVer W H l zs.length 0) := by show pHor W l zs.length = pHor W l zs.length ++ _; rw [verS_zero, List.map_nil, List.append_nil]
        have LE : Hid (pLst W H l zs.length 2 = pVer W H l zs.length ((H - l) * W)) := by show pVer W H l zs.length zs.length = _; unfold pVer; rw [show zs.length = (H - l) * W + (zs.length - (H - l) * W) from (Nat.add_sub_cancel' (by rw [HNN.out, Nat.mul_comm W]; exact Nat.mul_le_mul_right _ (Nat.sub_le _ _))).symm, ver_rest (by have := HX.out; omega) _ _ (Nat.le_refl _)]
        have LS : Hid (∀ r t, t < W → r < (H - l) → pVer W H l zs.length (r * W + t + 1) = pVer W H l zs.length (r * W + t) ++ [(r * W + t, r * W + t + l * W, true)]) := fun r t ht hr => by unfold pVer; rw [ver_step ht (by omega), List.map_append, ← List.append_assoc]; rfl
        have LR : Hid (∀ r, r < (H - l) → pVer W H l zs.length (r * W + W) = pVer W H l zs.length ((r + 1) * W)) := fun r hr => by rw [show r * W + W = (r + 1) * W by rw [Nat.add_mul, Nat.one_mul]]
        have LN : Hid (∀ k, k ≤ zs.length → (pVer W H l zs.length k).length ≤ 1048576) := fun k hk => Nat.le_trans (pVer_len _ _ _ _ _) (by omega)
        rw [LZ.out] at HP
        rw [LZ.out]
        clear LZ
        have VP := HV.out.low hB0.out (show X < G by omega)
        have q0 := VP.c0
        have q1 := VP.c1
        have q2 := VP.c2
        have ql := VP.lt
        clear VP
        go_wp2_with fail
        clear q0 q1 q2 ql g0 g1 g2 g3
        generalize hZ : wr.heap.size = Z at *
        generalize wr.alloc (.cells #[.int .i64 0, .int .i64 lg] 94) = b0 at *
        generalize hkv : ((1 : Nat) : Int) = kv
        have HKV := Lib.hid hkv
        obtain ⟨hkv0, hkv9⟩ : 0 ≤ kv ∧ kv ≤ 2 := by omega
        clear hZ hGw hB0 hkv
        go_loopw [5, 27] (fun o j wr => ∃ (r : Nat) (A' : Option Addr) (c' : Nat), r ≤ (H - l) ∧ j = .int .i64 r ∧ o = .slice A' (pVer W H l zs.length (r * W)).length c' ∧ Hid (PrS wr a0 G W zs (pVer W H l zs.length (r * W)) A' c' Z 0 lg)) (fun _ j _ => (H - l) - (intOf j).toNat)
        case atStart => exact ⟨0, _, _, Nat.zero_le _, rfl, by rw [Nat.zero_mul], by rw [Nat.zero_mul]; exact HP⟩
        case round =>
          clear HP
          obtain ⟨r, A2, c2, hr, rfl, rfl, HP⟩ := hrel
          have VP := HV.out.low HP.out.bel (show X < G by omega)
          have q0 := VP.c0
          have q1 := VP.c1
          have q2 := VP.c2
          have ql := VP.lt
          have z0 := HP.out.way.c0
          have z1 := HP.out.way.c1
          have zl := HP.out.way.lt
          clear VP
          by_cases hlr : (r : Int) < y - lg
          · have hr17 : r ≤ 17 := by omega
            have hrR : r < (H - l) := by have := HX.out; have := HY.out; have := HL.out; omega
            have HPR := Lib.hid HP.out
            clear HP
            go_wp2_with fail
            clear q0 q1 q2 ql z0 z1 zl
            go_loopw [5, 35] (fun o j wr => ∃ (t : Nat) (A' : Option Addr) (c' : Nat), t ≤ W ∧ j = .int .i64 t ∧ o = .slice A' (pVer W H l zs.length (r * W + t)).length c' ∧ Hid (PrS wr a0 G W zs (pVer W H l zs.length (r * W + t)) A' c' Z 0 lg)) (fun _ j _ => W - (intOf j).toNat)
            case atStart => exact ⟨0, _, _, Nat.zero_le _, rfl, rfl, HPR⟩
            case round =>
              clear HPR
              obtain ⟨t, A3, c3, ht, rfl, rfl, HP⟩ := hrel
              have VP := HV.out.low HP.out.bel (show X < G by omega)
              have q0 := VP.c0
              have q1 := VP.c1
              have q2 := VP.c2
              have ql := VP.lt
              have z0 := HP.out.way.c0
              have z1 := HP.out.way.c1
              have zl := HP.out.way.lt
              clear VP
              by_cases hlt : (t : Int) < x
              · have htT : t < W := by have := HX.out; have := HL.out; omega
                obtain ⟨hk1, hj1, hmod, hdiv⟩ : r * W + t < zs.length ∧ r * W + t + l * W < zs.length ∧ (r * W + t) % W = t ∧ (r * W + t) / W = r := po_b HX.out HY.out HL.out HNN.out htT hrR
                obtain ⟨u, u2, hu, hu0, hut, hv, hv0, hvt, hkl⟩ := po_facts HX.out HL.out r t
                have S := Lib.hid (LS.out r t htT hrR)
                have NK := Lib.hid (LN.out (r * W + t) (by omega))
                have e1 : wr.cell? ⟨b, off + (r * W + t), none⟩ = some (.float .f32 (at0 zs (r * W + t))) := by rw [HP.out.bel.cell (p := ⟨b, off + (r * W + t), none⟩) hbG]; exact HC.out _ hk1
                have e2 : wr.cell? ⟨b, off + (r * W + t + l * W), none⟩ = some (.float .f32 (at0 zs (r * W + t + l * W))) := by rw [HP.out.bel.cell (p := ⟨b, off + (r * W + t + l * W), none⟩) hbG]; exact HC.out _ hj1
                have hbw : b < wr.heap.size := Nat.lt_of_lt_of_le hbG (by have := HP.out.bel.size; have := HG.out; omega)
                have hGw : Hid (G ≤ wr.heap.size) := by show _ ≤ _; have := HP.out.bel.size; have := HG.out; omega
                have hs1 : Hid (r * W + (t + 1) = r * W + t + 1) := rfl
                generalize hj : r * W + t + l * W = j at *
                generalize hk : r * W + t = k at *
                have HS1 := Lib.hid hk
                have w1 : IntKind.i64.wrap ((r : Int) * x) = u := by rw [hu]; exact IntWalk.i64_in _ (by omega)
                have w2 : IntKind.i64.wrap (u + (t : Int)) = (k : Int) := by rw [hut]; exact IntWalk.i64_in _ (by omega)
                have w3 : IntKind.i64.wrap (((r : Int) + lg) * x) = u2 := by rw [hv]; exact IntWalk.i64_in _ (by omega)
                have w4 : IntKind.i64.wrap (u2 + (t : Int)) = (j : Int) := by rw [hvt]; exact IntWalk.i64_in _ (by omega)
                have HM := Lib.hid hmod
                have HD := Lib.hid hdiv
                have HU := Lib.hid (And.intro hu hv)
                clear hu hv hut hvt hkl hmod hdiv hj hk
                go_wp2_with (at_builtin; refine isAppP _ _ rfl ?_; refine wpGroQ rfl _ _ rfl (w0 := wr) (p := (k, j, true)) HP.out (by unfold pcA; rw [HM.out, HD.out]; rw [decide_eq_true (show (0 : Int) < lg by omega)]) rfl rfl (by first | rfl | simp [Act.eval]) NK.out hGw.out ?_; intro g5 c5 w5 P5; have HP5 := Lib.hid P5; clear P5)
                go_roundw
                case rel => exact ⟨t + 1, _, _, by omega, by go_num, by rw [hs1.out, S.out, List.length_append]; rfl, by rw [hs1.out, S.out]; exact HP5⟩
                case measure => simp [intOf]; omega
              · have et : t = W := by have := HX.out; have := HL.out; omega
                have S := Lib.hid (LR.out r hrR)
                rw [et] at HP hlt
                rw [et]
                clear et
                rw [S.out] at HP
                rw [S.out]
                go_wp2_with fail
                go_roundw
                case rel => exact ⟨r + 1, _, _, by omega, by go_num, rfl, HP⟩
                case measure => simp [intOf]; omega
          · have er : r = (H - l) := by have := HX.out; have := HY.out; have := HL.out; omega
            rw [er] at HP hlr
            rw [er]
            clear er
            rw [← LE.out] at HP
            rw [← LE.out]
            go_wp2_with fail
            go_roundw
            case rel => exact ⟨2, _, _, by omega, by rw [← HKV.out]; rfl, rfl, HP.out.own, HP.out.bel⟩
            case measure => rw [← HKV.out]; simp [intOf]
    · have ek : k = 2 := by omega
      subst ek
      have HE : Hid (Below X w wr) := HB.out.trans (hB.out.mono (by omega))
      go_wp2_with fail
      go_ret
      have HOX := Lib.hid (hO.out.lower (show X ≤ G by omega))
      exact ⟨_, _, rfl, by rw [HX0.out]; exact HOX, by rw [HX0.out]; exact HE.out⟩

theorem pairs_of (x y lg : Int) (A : Option Addr) (c : Nat) (zs : List Nat) (w : World) (hr : RowF w w.heap.size A zs) (h1 : shB x y zs = true) (hl : inB lg 1 17 = true) :
    Calls Try.prog 39 #[.agg #[.int .i64 x, .int .i64 y, .slice A zs.length c], .int .i64 lg] w fun e w' => ∃ A' c', e = .returned (.slice A' (pVer x.toNat y.toNat lg.toNat zs.length zs.length).length c') ∧ Hid (RowP w' w'.heap.size x.toNat zs (pVer x.toNat y.toNat lg.toNat zs.length zs.length) A') ∧ Hid (Below w.heap.size w w') :=
  (pairs_own x y lg A c zs w hr h1 hl).mono fun _ _ ⟨A', c', h1, h2, h3⟩ => ⟨A', c', h1, h2.out.row, h3⟩
end Go.Proofs.Ytfjahgojmiednaa
