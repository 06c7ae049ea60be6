/-
  What is proved here: what is recovered of a journal, told by the lines of a text, and by its first entry. Conditions: none. Own text; no dump.
-/
import Derived.Test.YtegbclfjcckglaaDoorCuc
import Derived.Test.YtegbclfjcckglaaDoorCheck
import Derived.Test.YtegbclfjcckglaaDoorDecB
namespace Go.Proofs.YtegbclfjcckglaaDoor

theorem dd_dig : ∀ m : Nat, ∀ b ∈ Lib.decDigits m, 48 ≤ b.toNat ∧ b.toNat ≤ 57 := by
  intro m
  induction m using Nat.strongRecOn with
  | _ m ih =>
    intro b hb
    have hd : ∀ k : Nat, 48 ≤ (digB k).toNat ∧ (digB k).toNat ≤ 57 := fun k => by have := digB_val k; omega
    by_cases h : m < 10
    · rw [dd_small h, List.mem_singleton] at hb
      rw [hb]; exact hd m
    · rw [dd_big h, List.mem_append] at hb
      rcases hb with hb | hb
      · exact ih (m / 10) (by omega) b hb
      · rw [List.mem_singleton.1 hb]; exact hd m
theorem itoa_dig {n : Int} (h : 0 ≤ n) : ∀ b ∈ Lib.itoa n, 48 ≤ b.toNat ∧ b.toNat ≤ 57 := by
  unfold Lib.itoa
  rw [if_neg (by omega)]
  exact dd_dig _
theorem itoa_plain {n : Int} (h : 0 ≤ n) : plainD 32 (Lib.itoa n) ∧ plainD 10 (Lib.itoa n) := by
  refine ⟨fun b hb e => ?_, fun b hb e => ?_⟩
  · have := itoa_dig h b hb; subst e; have h2 : (32 : UInt8).toNat = 32 := rfl; omega
  · have := itoa_dig h b hb; subst e; have h2 : (10 : UInt8).toNat = 10 := rfl; omega

/-- the entry of a line -/
def entT (c : Int) (l : List UInt8) : List UInt8 := Lib.itoa (chk c l) ++ 32 :: (l ++ [10])

/-- the first blank -/
def fstB : List UInt8 → Option (List UInt8 × List UInt8)
  | [] => none
  | c :: r => if c = 32 then some ([], r) else (fstB r).map fun x => (c :: x.1, x.2)
theorem fstB_none {p : List UInt8} (h : plainD 32 p) : fstB p = none := by
  induction p with
  | nil => rfl
  | cons c r ih =>
    unfold fstB
    rw [if_neg (h c (by simp)), ih fun x hx => h x (by simp [hx])]; rfl
theorem fstB_hit {a : List UInt8} (h : plainD 32 a) (b : List UInt8) : fstB (a ++ 32 :: b) = some (a, b) := by
  induction a with
  | nil => rfl
  | cons c r ih =>
    rw [List.cons_append, fstB, if_neg (h c (by simp)), ih fun x hx => h x (by simp [hx])]; rfl

/-- what is recovered of lines, and its length -/
def recA : Int → List (List UInt8) → List (List UInt8) × Nat
  | _, [] => ([], 0)
  | c, p :: r => if r = [] then ([], 0) else match fstB p with
    | none => ([], 0)
    | some (a, b) => if a = Lib.itoa (chk c b) then (b :: (recA (chk c b) r).1, p.length + 1 + (recA (chk c b) r).2) else ([], 0)

theorem recA_last (c : Int) (p : List UInt8) : recA c [p] = ([], 0) := by unfold recA; rw [if_pos rfl]
theorem recA_plain (c : Int) {p : List UInt8} (r : List (List UInt8)) (h : plainD 32 p) : recA c (p :: r) = ([], 0) := by
  unfold recA
  rw [fstB_none h]
  split <;> rfl
theorem recA_stop {c : Int} {a b : List UInt8} (r : List (List UInt8)) (h : plainD 32 a) (hn : a ≠ Lib.itoa (chk c b)) : recA c ((a ++ 32 :: b) :: r) = ([], 0) := by
  unfold recA
  rw [fstB_hit h]
  split
  · rfl
  · show (if a = Lib.itoa (chk c b) then _ else _) = _
    rw [if_neg hn]
theorem recA_go {c : Int} {a b : List UInt8} {r : List (List UInt8)} (hr : r ≠ []) (h : plainD 32 a) (hn : a = Lib.itoa (chk c b)) :
    recA c ((a ++ 32 :: b) :: r) = (b :: (recA (chk c b) r).1, (a ++ 32 :: b).length + 1 + (recA (chk c b) r).2) := by
  conv => lhs; unfold recA
  rw [if_neg hr, fstB_hit h]
  show (if a = Lib.itoa (chk c b) then _ else _) = _
  rw [if_pos hn]

/-- a cut, as the library tells it -/
theorem cutL (d : UInt8) (l : List UInt8) : (plainD d l ∧ Lib.cut l [d] = (l, [], false)) ∨ ∃ p r, l = p ++ d :: r ∧ plainD d p ∧ Lib.cut l [d] = (p, r, true) := by
  rcases cut_cases d (bytesD l) with ⟨h1, _, h3⟩ | ⟨x, y, h1, h2, _, h4⟩
  · exact .inl ⟨h1, h3⟩
  · exact .inr ⟨x.data.toList, y.data.toList, h1, h2, h4⟩

theorem same_front {d : UInt8} : ∀ {u v X Y : List UInt8}, plainD d u → plainD d v → u ++ d :: X = v ++ d :: Y → u = v
  | [], [], _, _, _, _, _ => rfl
  | [], y :: v, _, _, _, hv, h => by
    injection h with h _
    exact absurd h.symm (hv y (by simp))
  | x :: u, [], _, _, hu, _, h => by
    injection h with h _
    exact absurd h (hu x (by simp))
  | x :: u, y :: v, _, _, hu, hv, h => by
    injection h with h1 h2
    rw [h1, same_front (fun z hz => hu z (by simp [hz])) (fun z hz => hv z (by simp [hz])) h2]
theorem no_front : ∀ {u p X m : List UInt8}, plainD 10 u → plainD 32 p → u ++ 32 :: X = p ++ 10 :: m → False
  | [], [], _, _, _, _, h => by injection h with h _; exact absurd h (by decide)
  | [], y :: p, _, _, _, hp, h => by
    injection h with h _
    exact hp y (by simp) h.symm
  | x :: u, [], _, _, hu, _, h => by
    injection h with h _
    exact hu x (by simp) h
  | x :: u, y :: p, _, _, hu, hp, h => by
    injection h with _ h2
    exact no_front (fun z hz => hu z (by simp [hz])) (fun z hz => hp z (by simp [hz])) h2

theorem pre_false {R e : List UInt8} (h : ∀ t, R = e ++ t → False) : Lib.hasPrefix R e = false := by
  unfold Lib.hasPrefix
  cases hp : e.isPrefixOf R
  · rfl
  · exfalso
    obtain ⟨t, ht⟩ := List.isPrefixOf_iff_prefix.1 hp
    exact h t ht.symm
theorem pre_true (e t : List UInt8) : Lib.hasPrefix (e ++ t) e = true := by
  unfold Lib.hasPrefix
  exact List.isPrefixOf_iff_prefix.2 ⟨t, rfl⟩

theorem cutD_ne (d : UInt8) (l : List UInt8) : cutD d l ≠ [] := by
  obtain ⟨p, ps, h⟩ := cutD_cons d l
  rw [h]; simp

/-- the first entry: there is none, or it is the first line -/
theorem key_entry {c : Int} (hc : 0 ≤ c ∧ c < 65003) (R : List UInt8) :
    (Lib.hasPrefix R (entT c (Lib.cut (Lib.cut R [32]).2.1 [10]).1) = false ∧ recA c (cutD 10 R) = ([], 0)) ∨
    ∃ o, R = entT c (Lib.cut (Lib.cut R [32]).2.1 [10]).1 ++ o ∧
      recA c (cutD 10 R) = ((Lib.cut (Lib.cut R [32]).2.1 [10]).1 :: (recA (chk c (Lib.cut (Lib.cut R [32]).2.1 [10]).1) (cutD 10 o)).1, (entT c (Lib.cut (Lib.cut R [32]).2.1 [10]).1).length + (recA (chk c (Lib.cut (Lib.cut R [32]).2.1 [10]).1) (cutD 10 o)).2) := by
  have hk : ∀ l, 0 ≤ chk c l := fun l => (chk_bd c l hc).1
  rcases cutL 10 R with ⟨h1, _⟩ | ⟨p, m, h1, h2, _⟩
  · left
    refine ⟨pre_false fun t ht => ?_, by rw [cutD_end h1, recA_last]⟩
    exact h1 10 (by rw [ht]; unfold entT; simp) rfl
  · rcases cutL 32 p with ⟨g1, _⟩ | ⟨a, b, g1, g2, _⟩
    · left
      refine ⟨pre_false fun t ht => ?_, by rw [h1, cutD_hit h2, recA_plain _ _ g1]⟩
      rw [h1] at ht
      unfold entT at ht
      rw [List.append_assoc, List.cons_append] at ht
      exact no_front (itoa_plain (hk _)).2 g1 ht.symm
    · have hR : R = a ++ 32 :: (b ++ 10 :: m) := by rw [h1, g1]; simp
      have e1 : Lib.cut R [32] = (a, b ++ 10 :: m, true) := by
        rcases cutL 32 R with ⟨k1, _⟩ | ⟨a2, b2, k1, k2, k3⟩
        · exact absurd rfl (k1 32 (by rw [hR]; simp))
        · have e : a2 = a := same_front k2 g2 (k1.symm.trans hR)
          subst e
          rw [hR] at k1
          have := List.append_cancel_left k1
          injection this with _ e3
          rw [k3, ← e3]
      have e2 : Lib.cut (b ++ 10 :: m) [10] = (b, m, true) := by
        have hb : plainD 10 b := fun x hx => h2 x (by rw [g1]; simp [hx])
        rcases cutL 10 (b ++ 10 :: m) with ⟨k1, _⟩ | ⟨a2, b2, k1, k2, k3⟩
        · exact absurd rfl (k1 10 (by simp))
        · have e : b = a2 := same_front hb k2 k1
          subst e
          have := List.append_cancel_left k1
          injection this with _ e3
          rw [k3, ← e3]
      rw [e1]
      show (Lib.hasPrefix R (entT c (Lib.cut (b ++ 10 :: m) [10]).1) = false ∧ _) ∨ ∃ o, R = entT c (Lib.cut (b ++ 10 :: m) [10]).1 ++ o ∧ recA c (cutD 10 R) = ((Lib.cut (b ++ 10 :: m) [10]).1 :: (recA (chk c (Lib.cut (b ++ 10 :: m) [10]).1) (cutD 10 o)).1, (entT c (Lib.cut (b ++ 10 :: m) [10]).1).length + (recA (chk c (Lib.cut (b ++ 10 :: m) [10]).1) (cutD 10 o)).2)
      rw [e2]
      show (Lib.hasPrefix R (entT c b) = false ∧ _) ∨ ∃ o, R = entT c b ++ o ∧ recA c (cutD 10 R) = (b :: (recA (chk c b) (cutD 10 o)).1, (entT c b).length + (recA (chk c b) (cutD 10 o)).2)
      by_cases ha : a = Lib.itoa (chk c b)
      · right
        refine ⟨m, ?_, ?_⟩
        · rw [hR]; unfold entT; rw [← ha]; simp
        · rw [h1, cutD_hit h2, g1, recA_go (cutD_ne 10 m) g2 ha]
          unfold entT
          rw [← ha]
          congr 2
          simp; omega
      · left
        refine ⟨pre_false fun t ht => ?_, by rw [h1, cutD_hit h2, g1, recA_stop _ g2 ha]⟩
        rw [hR] at ht
        unfold entT at ht
        rw [List.append_assoc, List.cons_append] at ht
        exact ha (same_front g2 (itoa_plain (hk _)).1 ht)

end Go.Proofs.YtegbclfjcckglaaDoor
