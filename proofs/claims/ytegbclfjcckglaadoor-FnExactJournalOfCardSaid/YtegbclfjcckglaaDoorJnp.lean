/-
  What is proved here: the journal of lines, told line by line. Conditions: none. Own text; no dump.
-/
import Derived.Test.YtegbclfjcckglaaDoorRji
import Derived.Test.YtegbclfjcckglaaDoorStz
namespace Go.Proofs.YtegbclfjcckglaaDoor

def joL : Int → List ByteArray → List UInt8
  | _, [] => []
  | c, l :: r => entT c l.data.toList ++ joL (chk c l.data.toList) r
def ckL : Int → List ByteArray → Int
  | c, [] => c
  | c, l :: r => ckL (chk c l.data.toList) r
theorem joL_snoc : ∀ (L : List ByteArray) (c : Int) (l : ByteArray), joL c (L ++ [l]) = joL c L ++ entT (ckL c L) l.data.toList
  | [], c, l => by simp [joL, ckL]
  | x :: L, c, l => by
    rw [List.cons_append]
    unfold joL ckL
    rw [joL_snoc L, List.append_assoc]
theorem ckL_snoc : ∀ (L : List ByteArray) (c : Int) (l : ByteArray), ckL c (L ++ [l]) = chk (ckL c L) l.data.toList
  | [], c, l => rfl
  | x :: L, c, l => by
    rw [List.cons_append]
    unfold ckL
    rw [ckL_snoc L]
theorem joL_app : ∀ (L M : List ByteArray) (c : Int), ∃ t, joL c (L ++ M) = joL c L ++ t
  | [], M, c => ⟨joL c M, rfl⟩
  | x :: L, M, c => by
    obtain ⟨t, ht⟩ := joL_app L M (chk c x.data.toList)
    refine ⟨t, ?_⟩
    rw [List.cons_append]
    unfold joL
    rw [ht, List.append_assoc]

/-- the journal of the first lines, their last number, and their sizes -/
def joTo (ss : List ByteArray) (k : Nat) : List UInt8 := joL 0 (ss.take k)
def ckTo (ss : List ByteArray) (k : Nat) : Int := ckL 0 (ss.take k)
def totTo (ss : List ByteArray) : Nat → Nat
  | 0 => 0
  | k + 1 => totTo ss k + ((atT ss k).size + 3)

theorem take_oneT {ss : List ByteArray} {k : Nat} (h : k < ss.length) : ss.take (k + 1) = ss.take k ++ [atT ss k] := by
  rw [List.take_succ_eq_append_getElem h]; simp [atT, List.getD, h]
theorem joTo_succ {ss : List ByteArray} {k : Nat} (h : k < ss.length) : joTo ss (k + 1) = joTo ss k ++ entT (ckTo ss k) (atT ss k).data.toList := by
  unfold joTo ckTo; rw [take_oneT h, joL_snoc]
theorem ckTo_succ {ss : List ByteArray} {k : Nat} (h : k < ss.length) : ckTo ss (k + 1) = chk (ckTo ss k) (atT ss k).data.toList := by
  unfold ckTo; rw [take_oneT h, ckL_snoc]
theorem joTo_all (ss : List ByteArray) : joTo ss ss.length = joL 0 ss := by unfold joTo; rw [List.take_length]
theorem joTo_le (ss : List ByteArray) (k : Nat) : (joTo ss k).length ≤ (joL 0 ss).length := by
  obtain ⟨t, ht⟩ := joL_app (ss.take k) (ss.drop k) 0
  rw [List.take_append_drop] at ht
  rw [ht, List.length_append]
  exact Nat.le_add_right _ _
theorem ckTo_bd {ss : List ByteArray} : ∀ k, k ≤ ss.length → 0 ≤ ckTo ss k ∧ ckTo ss k < 65003
  | 0, _ => by unfold ckTo; rw [List.take_zero]; show (0 : Int) ≤ 0 ∧ (0 : Int) < 65003; omega
  | k + 1, h => by
    rw [ckTo_succ (by omega)]
    exact chk_bd _ _ (ckTo_bd k (by omega))
theorem ent_len {c : Int} (hc : 0 ≤ c ∧ c < 65003) (l : List UInt8) : l.length + 3 ≤ (entT c l).length ∧ (entT c l).length ≤ l.length + 19 := by
  have hb := chk_bd c l hc
  have h1 := itoa_short (n := chk c l) ⟨by omega, by omega⟩
  unfold entT
  simp
  omega
theorem joTo_len {ss : List ByteArray} : ∀ k, k ≤ ss.length → totTo ss k ≤ (joTo ss k).length ∧ (joTo ss k).length ≤ totTo ss k + 16 * k
  | 0, _ => by unfold joTo; rw [List.take_zero]; exact ⟨Nat.le_refl _, Nat.zero_le _⟩
  | k + 1, h => by
    have ih := joTo_len (ss := ss) k (by omega)
    have he := ent_len (ckTo_bd (ss := ss) k (by omega)) (atT ss k).data.toList
    rw [size_list] at he
    rw [joTo_succ (ss := ss) (k := k) (by omega), List.length_append]
    unfold totTo
    omega
theorem totTo_many (ss : List ByteArray) : ∀ k, 3 * k ≤ totTo ss k
  | 0 => Nat.le_refl _
  | k + 1 => by have := totTo_many ss k; unfold totTo; omega

def jB (ss : List ByteArray) : Bool := ss.all (fun x => decide ((10 : UInt8) ∉ x.data.toList)) && decide ((joL 0 ss).length ≤ 16000)
def jnT (ss : List ByteArray) : ByteArray := if jB ss = true then ⟨(joL 0 ss).toArray⟩ else ⟨#[]⟩

theorem jn_no {ss : List ByteArray} (h : jB ss = false) : jB ss = false ∧ jnT ss = ⟨#[]⟩ := ⟨h, by unfold jnT; rw [h]; rfl⟩
theorem jn_yes {ss : List ByteArray} (h : jB ss = true) : jB ss = true ∧ jnT ss = ⟨(joL 0 ss).toArray⟩ := ⟨h, if_pos h⟩
theorem jb_line {ss : List ByteArray} {k : Nat} (h : k < ss.length) (h2 : (10 : UInt8) ∈ (atT ss k).data.toList) : jB ss = false ∧ jnT ss = ⟨#[]⟩ := by
  refine jn_no ?_
  unfold jB
  have : ss.all (fun x => decide ((10 : UInt8) ∉ x.data.toList)) = false := by
    rw [List.all_eq_false]
    refine ⟨ss[k], List.getElem_mem h, ?_⟩
    rw [show atT ss k = ss[k] by simp [atT, List.getD, h]] at h2
    simp [h2]
  rw [this]; rfl
theorem jb_long {ss : List ByteArray} {k : Nat} (h : 16000 < (joTo ss k).length) : jB ss = false ∧ jnT ss = ⟨#[]⟩ := by
  refine jn_no ?_
  have := joTo_le ss k
  unfold jB
  rw [decide_eq_false (p := (joL 0 ss).length ≤ 16000) (by omega), Bool.and_false]
theorem jb_tot {ss : List ByteArray} {k : Nat} (hk : k ≤ ss.length) (h : 16000 < totTo ss k) : jB ss = false ∧ jnT ss = ⟨#[]⟩ :=
  jb_long (k := k) (by have := (joTo_len k hk).1; omega)
theorem jb_yes {ss : List ByteArray} (h : ∀ k, k < ss.length → (10 : UInt8) ∉ (atT ss k).data.toList) (h2 : (joL 0 ss).length ≤ 16000) : jB ss = true ∧ jnT ss = ⟨(joL 0 ss).toArray⟩ := by
  refine jn_yes ?_
  unfold jB
  rw [decide_eq_true h2, Bool.and_true, List.all_eq_true]
  intro x hx
  obtain ⟨k, hk, rfl⟩ := List.getElem_of_mem hx
  have := h k hk
  rw [show atT ss k = ss[k] by simp [atT, List.getD, hk]] at this
  simpa using this

end Go.Proofs.YtegbclfjcckglaaDoor
