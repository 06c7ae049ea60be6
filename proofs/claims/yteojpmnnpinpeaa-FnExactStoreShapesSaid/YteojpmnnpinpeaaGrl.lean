/-
  What is proved here: bytes appended to a row that the call owns: a slice's, a text's, onto a constant's; a number as two bytes. Conditions: at most 1048576 bytes.
-/
import Derived.Test.YteojpmnnpinpeaaFpn
import Derived.Room.AppendStr
import Derived.ArgAppend
import Derived.Lib.SmallJoins
import Derived.Deep.RegionHeldLaw
namespace Go.Proofs.Yteojpmnnpinpeaa
open Go.RowKit
set_option linter.unusedVariables false

/-- a byte as a value -/
def uB (b : UInt8) : Value := .int .u8 (b.toNat : Int)
theorem news_U {w : World} {b off : Nat} {M : List UInt8} (hc : ∀ j, j < M.length → w.cell? ⟨b, off + j, none⟩ = some (uB (atU M j))) :
    ∀ j u, (M.map (fun b : UInt8 => Value.int .u8 (b.toNat : Int)))[j]? = some u → w.cell? ((⟨b, off, none⟩ : Addr).add j) = some u := by
  intro j u hu
  rw [List.getElem?_map] at hu
  rcases Nat.lt_or_ge j M.length with hj | hj
  · rw [List.getElem?_eq_getElem hj] at hu
    simp at hu
    subst hu
    rw [Go.WideShapes.add_plain, hc j hj]
    simp [uB, atU, List.getD, hj]
  · rw [List.getElem?_eq_none hj] at hu; cases hu
theorem one_U {M : List UInt8} : ∀ u ∈ M.map (fun b : UInt8 => Value.int .u8 (b.toNat : Int)), u.oneCell' = true := by
  intro u hu
  obtain ⟨z, _, rfl⟩ := List.mem_map.1 hu
  rfl
theorem GroU.lower {w : World} {G G' c : Nat} {L : List UInt8} {A : Option Addr} (h : GroU w G L A c) (hG : G' ≤ G) : GroU w G' L A c :=
  ⟨h.1, h.2.elim Or.inl (fun ⟨g, cap, cur, hv, hg, r⟩ => Or.inr ⟨g, cap, cur, hv, Nat.le_trans hG hg, r⟩)⟩
theorem gro_form {w : World} {G n : Nat} {v : Value} {L : List UInt8} (h : w.ownsRow G 5 1 v n (L.map (fun b : UInt8 => Value.int .u8 (b.toNat : Int)))) (h0 : 0 < n) (hn : n = L.length) : ∃ g c, v = .slice (some ⟨g, 0, none⟩) L.length c ∧ GroU w G L (some ⟨g, 0, none⟩) c := by
  subst hn
  rcases h.2 with ⟨_, h1⟩ | ⟨g, cap, cur, hv, r⟩
  · omega
  · refine ⟨g, cap, hv, ?_⟩
    unfold GroU
    rw [← hv]
    exact h

/-- an append of a slice's bytes, as a step of a walk -/
theorem wpGroUL {ops : Array Oper} {rest : List Oper} {o : Oper} {a : Act} {Q : Exit → Act → World → Prop} (hgd : o.guard = none) (s x : Operand)
    (ho : o.op = .call { callee := .builtin .append, args := #[s, x], argTypes := #[212, 212] })
    {w : World} {G c b off cx n m : Nat} {L M : List UInt8} {A : Option Addr} (hO : GroU w G L A c) (hM : ∀ j, j < M.length → w.cell? ⟨b, off + j, none⟩ = some (uB (atU M j))) (h0 : 0 < M.length) (hs : a.eval s = .slice A n c) (hx : a.eval x = .slice (some ⟨b, off, none⟩) m cx) (hn : n = L.length) (hm : m = M.length) (hL : L.length + M.length ≤ 1048576) (hG : G ≤ w.heap.size)
    (h : ∀ g' c' w', GroU w' G (L ++ M) (some ⟨g', 0, none⟩) c' → Below G w w' → wpList Try.prog ops Q rest (a.put o.dst (.slice (some ⟨g', 0, none⟩) (n + m) c')) w') :
    wpList Try.prog ops Q (o :: rest) a w := by
  subst hn hm
  obtain ⟨i0, hi, hz0, hz1, hz2⟩ := info_parts info_u8
  refine wpList_append_lies _ hgd s x 212 ho G 5 i0 (.int .u8 0) 1 1 Try.underlying212 hi hz0 hz1 hz2 rfl (by decide) _ L.length (L.map (fun b : UInt8 => Value.int .u8 (b.toNat : Int))) hs hO ⟨b, off, none⟩ M.length cx (M.map (fun b : UInt8 => Value.int .u8 (b.toNat : Int))) hx (by simp) (news_U hM) one_U h0 (by unfold maxLen; omega) (by omega) hG _ rfl ?_
  intro g' cap w' h1 h2 h3 h4
  refine h g' cap w' ?_ ?_
  · unfold GroU
    rw [List.length_append, List.map_append]
    exact h1
  · refine grownAtU (Below.refl _ _) h2 hG ?_
    rcases hO.cases with ⟨rfl, rfl, rfl⟩ | ⟨g, rfl⟩
    · intro k hk; cases hk
    · intro k hk
      injection hk with hk
      have := (hO.lt _ rfl).1
      have e : k = g := hk.symm
      omega

/-- .. as a step of a region that draws its order -/
theorem stepGroUL {ops : Array Oper} {o : Oper} {a : Act} {K : Act → World → Prop} {Q : Exit → Act → World → Prop} {E : Prop} (hgd : o.guard = none) (s x : Operand)
    (ho : o.op = .call { callee := .builtin .append, args := #[s, x], argTypes := #[212, 212] })
    {w : World} {G c b off n m : Nat} {L M : List UInt8} {A : Option Addr} (hO : GroU w G L A c) (hM : ∀ j, j < M.length → w.cell? ⟨b, off + j, none⟩ = some (uB (atU M j))) (h0 : 0 < M.length) (hs : a.eval s = .slice A n c) (hx : a.eval x = .slice (some ⟨b, off, none⟩) m m) (hn : n = L.length) (hm : m = M.length) (hL : L.length + M.length ≤ 1048576) (hG : G ≤ w.heap.size)
    (h : ∀ g' c' w', GroU w' G (L ++ M) (some ⟨g', 0, none⟩) c' → Below G w w' → K (a.put o.dst (.slice (some ⟨g', 0, none⟩) (n + m) c')) w') :
    if Region.wanted o (yielded ops a.tmps) = true then Oper.wp Try.prog o a w K Q else E := by
  subst hn hm
  obtain ⟨i0, hi, hz0, hz1, hz2⟩ := info_parts info_u8
  refine step_append_lies _ hgd s x 212 ho G 5 i0 (.int .u8 0) 1 1 Try.underlying212 hi hz0 hz1 hz2 rfl (by decide) _ L.length (L.map (fun b : UInt8 => Value.int .u8 (b.toNat : Int))) hs hO ⟨b, off, none⟩ M.length M.length (M.map (fun b : UInt8 => Value.int .u8 (b.toNat : Int))) hx (by simp) (news_U hM) one_U h0 (by unfold maxLen; omega) (by omega) hG _ rfl ?_
  intro g' cap w' h1 h2 h3 h4
  refine h g' cap w' ?_ ?_
  · unfold GroU
    rw [List.length_append, List.map_append]
    exact h1
  · refine grownAtU (Below.refl _ _) h2 hG ?_
    rcases hO.cases with ⟨rfl, rfl, rfl⟩ | ⟨g, rfl⟩
    · intro k hk; cases hk
    · intro k hk
      injection hk with hk
      have := (hO.lt _ rfl).1
      have e : k = g := hk.symm
      omega

/-- an append of a slice's bytes onto a row that is full and not the call's own, as a step of a walk -/
theorem wpGroUC {ops : Array Oper} {rest : List Oper} {o : Oper} {a : Act} {Q : Exit → Act → World → Prop} (hgd : o.guard = none) (s x : Operand)
    (ho : o.op = .call { callee := .builtin .append, args := #[s, x], argTypes := #[212, 212] })
    {w : World} {G g0 b off cx n m : Nat} {L M : List UInt8} (hO : ∀ j, j < L.length → w.cell? ⟨g0, 0 + j, none⟩ = some (uB (atU L j))) (hM : ∀ j, j < M.length → w.cell? ⟨b, off + j, none⟩ = some (uB (atU M j))) (h0 : 0 < M.length) (hs : a.eval s = .slice (some ⟨g0, 0, none⟩) n n) (hx : a.eval x = .slice (some ⟨b, off, none⟩) m cx) (hn : n = L.length) (hm : m = M.length) (hL : L.length + M.length ≤ 1048576) (hG : G ≤ w.heap.size)
    (h : ∀ g' c' w', GroU w' G (L ++ M) (some ⟨g', 0, none⟩) c' → Below w.heap.size w w' → wpList Try.prog ops Q rest (a.put o.dst (.slice (some ⟨g', 0, none⟩) (n + m) c')) w') :
    wpList Try.prog ops Q (o :: rest) a w := by
  subst hn hm
  obtain ⟨i0, hi, hz0, hz1, hz2⟩ := info_parts info_u8
  refine wpList_append_grows w hgd s x 212 ho 5 i0 (.int .u8 0) 1 1 Try.underlying212 hi hz0 hz1 hz2 rfl (by decide) (some ⟨g0, 0, none⟩) L.length L.length (L.map (fun b : UInt8 => Value.int .u8 (b.toNat : Int))) hs (fun e => nomatch e) (by simp) (fun q hq => by injection hq with hq; subst hq; exact news_U hO) ⟨b, off, none⟩ M.length cx (M.map (fun b : UInt8 => Value.int .u8 (b.toNat : Int))) hx (by simp) (news_U hM) one_U (by omega) (by unfold maxLen; omega) (by omega) ?_
  intro v' w' h1 h2
  rw [← List.map_append] at h1
  obtain ⟨g, c, rfl, hg⟩ := gro_form h1 (by omega) (by rw [List.length_append])
  rw [show (L ++ M).length = L.length + M.length from List.length_append] at *
  exact h g c w' (hg.lower hG) ⟨h2.os, h2.tape, h2.output, h2.size, fun k hk => h2.block k hk (fun e => nomatch e)⟩

/-- an append of a text's bytes, as a step of a walk -/
theorem wpGroUS {ops : Array Oper} {rest : List Oper} {o : Oper} {a : Act} {Q : Exit → Act → World → Prop} (hgd : o.guard = none) (s x : Operand)
    (ho : o.op = .call { callee := .builtin .append, args := #[s, x], argTypes := #[212, 9] })
    {w : World} {G c n : Nat} {L : List UInt8} {t : ByteArray} {A : Option Addr} (hO : GroU w G L A c) (h0 : 0 < L.length) (hs : a.eval s = .slice A n c) (hx : a.eval x = .string t) (hn : n = L.length) (hL : L.length + t.size ≤ 1048576) (hG : G ≤ w.heap.size)
    (h : ∀ g' c' w', GroU w' G (L ++ t.data.toList) (some ⟨g', 0, none⟩) c' → Below G w w' → wpList Try.prog ops Q rest (a.put o.dst (.slice (some ⟨g', 0, none⟩) (n + t.size) c')) w') :
    wpList Try.prog ops Q (o :: rest) a w := by
  subst hn
  obtain ⟨i0, hi, hz0, hz1, hz2⟩ := info_parts info_u8
  refine Lib.wpList_append_own_string w hgd s x 212 9 ho G 5 i0 Try.underlying212 Try.underlying9 hi hz0 hz1 hz2 _ L.length (L.map (fun b : UInt8 => Value.int .u8 (b.toNat : Int))) hs hO t hx (by unfold maxLen; omega) (by omega) hG ?_
  intro v' w' h1 h2 _
  have e : L.length + t.size = (L ++ t.data.toList).length := by rw [List.length_append]; congr 1
  rw [show L.map (fun b : UInt8 => Value.int .u8 (b.toNat : Int)) ++ Lib.strCells t = (L ++ t.data.toList).map (fun b : UInt8 => Value.int .u8 (b.toNat : Int)) by rw [List.map_append]; rfl] at h1
  obtain ⟨g, c', rfl, hg⟩ := gro_form h1 (by omega) e
  rw [← e] at *
  refine h g c' w' hg ?_
  refine grownAtU (Below.refl _ _) h2 hG ?_
  rcases hO.cases with ⟨rfl, rfl, rfl⟩ | ⟨g1, rfl⟩
  · intro k hk; cases hk
  · intro k hk
    injection hk with hk
    have := (hO.lt _ rfl).1
    have e : k = g1 := hk.symm
    omega

theorem cells2 (w : World) (y z : UInt8) (a b : Int) (ha : a = (y.toNat : Int)) (hb : b = (z.toNat : Int)) (t : TypeId) : ∀ j, j < [y, z].length → (w.alloc (.cells #[.int .u8 a, .int .u8 b] t)).cell? ⟨w.heap.size, 0 + j, none⟩ = some (uB (atU [y, z] j)) := by
  subst ha hb
  intro j hj
  match j, hj with
  | 0, _ => simp [World.cell?, World.alloc, -World.alloc_eq, uB, atU]
  | 1, _ => simp [World.cell?, World.alloc, -World.alloc_eq, uB, atU]
/-- a number as two bytes -/
def pairU (k : Nat) : List UInt8 := [UInt8.ofNat (k % 256), UInt8.ofNat (k / 256)]
set_option maxHeartbeats 2000000 in
theorem implPair {w : World} {G c n k : Nat} {L : List UInt8} {A : Option Addr} (hO : GroU w G L A c) (hn : n = L.length) (hL : L.length + 2 ≤ 1048576) (hG : G ≤ w.heap.size) (hk : k ≤ 65535) :
    Calls Try.prog 187 #[.slice A n c, .int .i64 (k : Nat)] w fun e w' => ∃ g' c', e = .returned (.slice (some ⟨g', 0, none⟩) (n + 2) c') ∧ Hid (GroU w' G (L ++ pairU k) (some ⟨g', 0, none⟩) c') ∧ Hid (Below G w w') := by
  have HO := Lib.hid hO
  have HN := Lib.hid hn
  clear hO hn
  go_enter Try.func187, Try.ntmps187
  have HA := Lib.hid ((Below.refl w.heap.size w).alloc (Nat.le_refl _) (.cells #[.int .u8 ((k : Int) % 256), .int .u8 ((k : Int) / 256)] 5))
  have HM := Lib.hid (cells2 w (UInt8.ofNat (k % 256)) (UInt8.ofNat (k / 256)) ((k : Int) % 256) ((k : Int) / 256) (by rw [u8n (by omega)]; omega) (by rw [u8n (by omega)]; omega) 5)
  go_wp2_with (at_builtin; refine wpGroUL rfl _ _ rfl (M := pairU k) (HO.out.below HA.out) HM.out (Nat.succ_pos _) rfl rfl HN.out rfl hL (Nat.le_trans hG HA.out.size) ?_; intro g' c' w' O4 B4; have HO4 := Lib.hid O4; have HB4 := Lib.hid ((HA.out.mono hG).trans B4); clear O4 B4)
  go_ret
  exact ⟨g', c', rfl, HO4, HB4⟩

end Go.Proofs.Yteojpmnnpinpeaa
