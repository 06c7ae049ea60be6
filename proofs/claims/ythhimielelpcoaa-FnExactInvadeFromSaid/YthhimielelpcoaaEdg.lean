/-
  What is proved here: a map of cells, as the program keeps a growing field's edge: what lies in it, how it is written, and its cells in order. Conditions: at most 1000000 writes.
-/
import Derived.Test.YthhimielelpcoaaBup
import Derived.Test.YthhimielelpcoaaGri
import Derived.Test.YthhimielelpcoaaShelfI
import Derived.Maps.OwnOps
import Derived.Maps.OwnSet
namespace Go.Proofs.Ythhimielelpcoaa
open Go.RowKit Go.Maps Go.Sort Go.Shelf
set_option linter.unusedVariables false
set_option linter.unusedSimpArgs false

theorem keyI : Keyed Try.prog 2 := int_keyed Try.underlying2

/-- a map of cells: just those below n that p names lie in it -/
def EdM (w : World) (B m : Nat) (p : Nat → Bool) (n : Nat) : Prop :=
  ∃ D : DataW Unit, w.ownsMap Try.prog 2 (plainElem Try.prog 4) B m D ∧ ∀ z : Int, Maps.has D (.int .i64 z) = true ↔ ∃ k : Nat, z = k ∧ k < n ∧ p k = true

theorem EdM.lt {w : World} {B m n : Nat} {p : Nat → Bool} (h : EdM w B m p n) : B < w.heap.size := by
  obtain ⟨D, hown, _⟩ := h
  exact hown.lt
theorem EdM.heap {w w' : World} {B m n : Nat} {p : Nat → Bool} (h : EdM w B m p n) (e : w'.heap[B]? = w.heap[B]?) : EdM w' B m p n := by
  obtain ⟨D, ⟨es, clock, hb, r⟩, h2⟩ := h
  exact ⟨D, ⟨es, clock, e.trans hb, r⟩, h2⟩
theorem EdM.below {w w' : World} {B m n : Nat} {p : Nat → Bool} (h : EdM w B m p n) (hb : Below w.heap.size w w') : EdM w' B m p n := h.heap (hb.block B h.lt)
theorem EdM.mono {w : World} {B m m' n : Nat} {p : Nat → Bool} (h : EdM w B m p n) (hm : m ≤ m') : EdM w B m' p n := by
  obtain ⟨D, hown, h2⟩ := h
  exact ⟨D, hown.mono hm, h2⟩
theorem EdM.made (w : World) (n : Nat) : EdM (w.alloc (.map #[] 0)) w.heap.size 0 (fun _ => false) n :=
  ⟨.map [], World.ownsMap_made _ _ _ _, fun z => ⟨fun h => (by cases h), fun ⟨_, _, _, h⟩ => (by cases h)⟩⟩

set_option maxRecDepth 1000000 in
theorem EdM.put {w : World} {B m n c : Nat} {p q : Nat → Bool} (h : EdM w B m p n) (hm : m < 1048576) (hc : c < n) (hn : n ≤ 1048576) (hq : ∀ k, k < n → q k = (decide (k = c) || p k)) :
    ∃ w', (Instr.mapUpdate 87 (.map (some B)) (.int .i64 (c : Int)) (.bool true)).run Try.prog w = .ok () w' ∧ EdM w' B (m + 1) q n ∧ w.grownBy w' (some B) := by
  obtain ⟨D, hown, hat⟩ := h
  obtain ⟨w', hrun, hown', hg⟩ := World.ownsMap.update hown keyI Try.underlying87 (by unfold maxLen; omega) (keyOf_int_mk Try.underlying2 (WalkArith.wf_i64 (n := (c : Int)) (by omega))) (plainElem_bool (H := Unit) (P := Try.prog) Try.underlying4 true)
  refine ⟨w', hrun, ⟨_, hown', fun z => ?_⟩, hg⟩
  by_cases e : z = (c : Int)
  · subst e
    rw [has_put_same hown.isMap (by trivial)]
    exact ⟨fun _ => ⟨c, rfl, hc, by rw [hq c hc, decide_eq_true rfl]; rfl⟩, fun _ => rfl⟩
  · rw [has_put_other (by intro h; injection h with _ h; exact e h), hat z]
    constructor
    · rintro ⟨k, rfl, h2, h3⟩
      exact ⟨k, rfl, h2, by rw [hq k h2, h3, Bool.or_true]⟩
    · rintro ⟨k, rfl, h2, h3⟩
      rw [hq k h2, decide_eq_false (by omega), Bool.false_or] at h3
      exact ⟨k, rfl, h2, h3⟩

set_option maxRecDepth 1000000 in
theorem EdM.drop {w : World} {B m n c : Nat} {p q : Nat → Bool} (h : EdM w B m p n) (hc : c < n) (hn : n ≤ 1048576) (hq : ∀ k, k < n → q k = (!decide (k = c) && p k)) (ty : TypeId) :
    ∃ w', (Builtin.delete_ #[87, 2] ty #[.map (some B), .int .i64 (c : Int)]).run Try.prog w = .ok (.tuple #[]) w' ∧ EdM w' B m q n ∧ w.grownBy w' (some B) := by
  obtain ⟨D, hown, hat⟩ := h
  obtain ⟨w', hrun, hown', ht⟩ := World.ownsMap.drop hown keyI Try.underlying87 (keyOf_int_mk Try.underlying2 (WalkArith.wf_i64 (n := (c : Int)) (by omega))) ty
  refine ⟨w', hrun, ⟨_, hown', fun z => ?_⟩, ht.grown⟩
  by_cases e : z = (c : Int)
  · subst e
    rw [has_del_same]
    refine ⟨fun h => (by cases h), fun ⟨k, h1, h2, h3⟩ => ?_⟩
    rw [hq k h2, decide_eq_true (by omega)] at h3
    exact h3
  · rw [has_del_other (by intro h; injection h with _ h; exact e h), hat z]
    constructor
    · rintro ⟨k, rfl, h2, h3⟩
      exact ⟨k, rfl, h2, by rw [hq k h2, h3, decide_eq_false (by omega)]; rfl⟩
    · rintro ⟨k, rfl, h2, h3⟩
      rw [hq k h2, decide_eq_false (by omega)] at h3
      exact ⟨k, rfl, h2, h3⟩

theorem fulL_sorted (q : Nat → Bool) (k : Nat) : (fulL q k).Pairwise (fun a b => leI a b = true) := by
  induction k with
  | zero => exact List.Pairwise.nil
  | succ k ih =>
    cases e : q k with
    | true =>
      rw [fulL_yes e, List.pairwise_append]
      refine ⟨ih, List.pairwise_singleton _ _, fun a ha b hb => ?_⟩
      rw [List.mem_singleton] at hb
      obtain ⟨i, h1, h2, _⟩ := fulL_mem.1 ha
      simp only [leI, decide_eq_true_eq]
      omega
    | false => rw [fulL_no e]; exact ih

/-- a map's keys, sorted: its cells in order -/
theorem sort_ful {w : World} {B m n : Nat} {p : Nat → Bool} {D : DataW Unit} {ss : List Int} (hown : w.ownsMap Try.prog 2 (plainElem Try.prog 4) B m D)
    (hD : ∀ z : Int, Maps.has D (.int .i64 z) = true ↔ ∃ k : Nat, z = k ∧ k < n ∧ p k = true) (hs : ss.Perm (intKeys D)) : ss.mergeSort (fun x y => decide (x ≤ y)) = fulL p n := by
  have h1 : (fulL p n).Perm (intKeys D) := CollectedI.perm (left := fun _ => false) ⟨fulL_nodup p n, fun z => by rw [hD z, fulL_mem]; exact ⟨fun h => ⟨h, rfl⟩, fun h => h.1⟩⟩ hown keyI Try.underlying2 (fun _ => rfl)
  have tr : ∀ a b c : Int, leI a b = true → leI b c = true → leI a c = true := fun a b c h1 h2 => by simp only [leI, decide_eq_true_eq] at *; exact Int.le_trans h1 h2
  have to : ∀ a b : Int, (leI a b || leI b a) = true := fun a b => by simp only [leI, Bool.or_eq_true, decide_eq_true_eq]; exact Int.le_total a b
  refine List.Perm.eq_of_pairwise (le := fun a b => leI a b = true) (fun a b _ _ h1 h2 => ?_) (List.pairwise_mergeSort tr to ss) (fulL_sorted p n) (((List.mergeSort_perm ss leI).trans hs).trans h1.symm)
  simp only [leI, decide_eq_true_eq] at h1 h2
  exact Int.le_antisymm h1 h2

theorem sortsI (m : Nat) : AnyZI.SortsIn Try.prog Try.sortedI_ren Fence.wide m :=
  ⟨fun blk off cap ss W hH hblk hsz => callsIn_wide.2 (AnyM.slices_Sort_int Try.sortI blk off cap ss W hH hblk hsz), fun p cap W => callsIn_wide.2 (AnyM.slices_Sort_int_none Try.sortI p cap W)⟩

set_option maxHeartbeats 4000000 in
set_option maxRecDepth 1000000 in
theorem implCes (x y : Int) (F : Option Addr) (n f l m B : Nat) (p : Nat → Bool) (w : World) (h : EdM w B m p l) (hm : m ≤ 1048576) :
    Calls Try.prog 57 #[.agg #[.int .i64 x, .int .i64 y, .slice F n f, .map (some B)]] w fun e w' => ∃ A c, e = .returned (.slice A (fulL p l).length c) ∧ Hid (GroI w' w.heap.size (fulL p l) A c) ∧ Hid (Below w.heap.size w w') := by
  have hB := h.lt
  obtain ⟨D, hown, hD⟩ := h
  have hsz := Nat.le_trans hown.size_le hm
  have hmax : Maps.size D ≤ maxLen := by unfold maxLen; omega
  have hbytes : Maps.size D * 8 ≤ 140737488355328 := by omega
  refine (callsIn_wide (n := 6)).1 ?_
  generalize hW1 : w.alloc (.cells #[.int .i64 x, .int .i64 y, .slice F n f, .map (some B)] 89) = W1
  have hs1 : W1.heap.size = w.heap.size + 1 := by subst hW1; simp [World.alloc, -World.alloc_eq]
  have hb1 : Below w.heap.size w W1 := by subst hW1; exact (Below.refl _ _).alloc (Nat.le_refl _) _
  have hc3 : W1.cell? ⟨w.heap.size, 3, none⟩ = some (.map (some B)) := by subst hW1; simp [World.cell?, World.alloc, -World.alloc_eq]
  have hown1 : W1.ownsMap Try.prog 2 (plainElem Try.prog 4) B m D := by
    obtain ⟨es, clock, hb, r⟩ := hown
    exact ⟨es, clock, (hb1.block B hB).trans hb, r⟩
  have hseq : SeqGives Fence.wide 2 Try.prog 145 #[.pointer (some ⟨W1.heap.size, 0, none⟩)] encZ (fun ss => ss.Perm (intKeys D)) (Maps.size D) (W1.alloc (.cells #[.map (some B)] 87)) :=
    AnyZI.keys_gives (ρ := Try.keysI_ren) { Try.keysI with } Fence.wide _ trivial rfl (by omega) W1.heap.size B m D _ (by simp) (by simp) (by
      obtain ⟨es, clock, hb, Ft, hs, hD⟩ := hown1
      exact ⟨es, clock, (Below.heap_alloc _ _ B (by omega)).trans hb, Ft, hs, hD⟩)
  have cK : ∀ mb W, CallsIn Fence.wide 5 Try.prog 107 #[.map mb] W fun e w' => e = .returned (.func (.func 145) #[] #[.pointer (some ⟨W.heap.size, 0, none⟩)]) ∧ w' = W.alloc (.cells #[.map mb] 87) := fun mb W => AnyZI.keys_in Try.keysI Fence.wide 5 trivial rfl mb W
  have cS := AnyZI.sorted_in Try.sortedI Fence.wide 5 trivial trivial trivial trivial rfl (by omega) (sortsI _) (enters_of Try.func144 (by kernel_rfl) rfl) 145 #[.pointer (some ⟨W1.heap.size, 0, none⟩)] trivial (enters_of Try.func145 (by kernel_rfl) rfl) _ _ hmax hbytes _ hseq
  change CallsIn _ _ Try.prog 106 _ _ _ at cS
  have HS1 := Lib.hid hs1
  clear hs1
  have hfK : Fence.wide.fn 107 := trivial
  have hfS : Fence.wide.fn 106 := trivial
  refine callsIn_of_wp Try.func57 rfl trivial ?_ rfl
  simp only [Try.ntmps57, List.size_toArray, List.length_cons, List.length_nil, Nat.reduceAdd, Nat.reduceSub, Array.replicate_succ, Array.replicate_zero, List.push_toArray, List.append_toArray, List.nil_append, List.cons_append]
  gi_wp2_with (first
    | (gi_at_call 107; refine (cK _ _).mono ?_; rintro e w' ⟨rfl, rfl⟩)
    | (gi_at_call 106; refine cS.mono ?_; rintro e w' ⟨v, ss, rfl, hS, hrow, hnil, hb⟩))
  have hs1 := HS1.out
  go_ret
  have hL := sort_ful hown1 hD hS
  rw [hL] at hrow
  have hlen : ss.length = (fulL p l).length := by rw [← hL]; exact (List.length_mergeSort _).symm
  rw [hlen] at hrow
  have hbb : Below w.heap.size w w' := hb1.trans (((Below.refl _ W1).alloc (Nat.le_refl _) _).trans (hb.mono (by simp)) |>.mono (by omega))
  rcases hrow.2 with ⟨rfl, hz⟩ | ⟨gb, cap, cur, rfl, hbase, hrest⟩
  · have hz2 : fulL p l = [] := List.eq_nil_of_length_eq_zero hz
    exact ⟨none, 0, by rw [hz2]; rfl, by rw [hz2]; exact GroI.nil _ _, hbb⟩
  · exact ⟨_, _, rfl, ownsRow_base_a hrow (by simp; omega), hbb⟩
end Go.Proofs.Ythhimielelpcoaa
