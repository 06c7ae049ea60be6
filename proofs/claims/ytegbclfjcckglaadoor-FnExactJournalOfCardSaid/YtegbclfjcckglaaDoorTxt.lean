/-
  What is proved here: the two functions ListText, as walks. Conditions: at most 1048576 numbers; the library's table holds the powers of ten.
-/
import Derived.Test.YtegbclfjcckglaaDoorInts
import Derived.Test.YtegbclfjcckglaaDoorRd
import Derived.Test.YtegbclfjcckglaaDoorShelfC
import Derived.Lib.Join
import Derived.Laws.Concat
namespace Go.Proofs.YtegbclfjcckglaaDoor
open Go.RowKit

/-- lists that have a text -/
def lstB (zs : List Int) : Bool := zs.all (fun z => decide (okV z)) && decide (zs.length ≤ 64)
/-- their text -/
def joinI (zs : List Int) : List UInt8 := Lib.join (zs.map Lib.itoa) [44]
def lstT (zs : List Int) : List UInt8 := if lstB zs = true then (if zs.length = 0 then [110, 111, 110, 101] else joinI zs) else []

theorem joinI_one (z : Int) : joinI [z] = Lib.itoa z := Lib.join_one _ _
theorem joinI_snoc (zs : List Int) (z : Int) (h : zs ≠ []) : joinI (zs ++ [z]) = joinI zs ++ (44 :: Lib.itoa z) := by
  cases zs with
  | nil => exact absurd rfl h
  | cons x r =>
    unfold joinI
    rw [List.cons_append, List.map_cons, List.map_cons, Lib.join_cons, Lib.join_cons]
    unfold Lib.joinTail
    simp
theorem joinI_len (zs : List Int) (h : ∀ z ∈ zs, okV z) : (joinI zs).length ≤ 22 * zs.length := by
  have key : ∀ (r : List Int), (∀ z ∈ r, okV z) → (Lib.joinTail [44] (r.map Lib.itoa)).length ≤ 22 * r.length := by
    intro r
    induction r with
    | nil => intro _; simp [Lib.joinTail]
    | cons z r ih =>
      intro h
      have h1 := itoa_short (h z (by simp))
      have h2 := ih fun z hz => h z (by simp [hz])
      unfold Lib.joinTail at h2 ⊢
      simp at h2 ⊢
      omega
  cases zs with
  | nil => simp [joinI, Lib.join_nil]
  | cons z r =>
    have h1 := itoa_short (h z (by simp))
    have h2 := key r fun z hz => h z (by simp [hz])
    unfold joinI
    rw [List.map_cons, Lib.join_cons, List.length_append, List.length_cons]
    omega

theorem take_snoc (zs : List Int) (k : Nat) (h : k < zs.length) : zs.take (k + 1) = zs.take k ++ [atI zs k] := by
  rw [List.take_succ_eq_append_getElem h]; simp [atI, List.getD, h]

/-- all of them are values, before a place -/
def valTo (zs : List Int) (k : Nat) : Prop := ∀ j, j < k → okV (atI zs j)
theorem valTo_all {zs : List Int} (h : valTo zs zs.length) : zs.all (fun z => decide (okV z)) = true := by
  rw [List.all_eq_true]
  intro x hx
  obtain ⟨j, hj, rfl⟩ := List.getElem_of_mem hx
  have := h j hj
  rw [show atI zs j = zs[j] by simp [atI, List.getD, hj]] at this
  exact decide_eq_true this
theorem all_mem {zs : List Int} (h : zs.all (fun z => decide (okV z)) = true) : ∀ z ∈ zs, okV z := fun z hz => of_decide_eq_true (List.all_eq_true.1 h z hz)
theorem at_mem {zs : List Int} {j : Nat} (h : j < zs.length) : atI zs j ∈ zs := by
  rw [show atI zs j = zs[j] by simp [atI, List.getD, h]]; exact List.getElem_mem h
theorem all_not {zs : List Int} {k : Nat} (h : k < zs.length) (hm : ¬ okV (atI zs k)) : zs.all (fun z => decide (okV z)) = false := by
  rw [List.all_eq_false]
  exact ⟨_, at_mem h, by simpa using hm⟩

theorem specList (A : Option Addr) (c : Nat) (zs : List Int) (w : World) (hr : RowI w w.heap.size A zs) (hn : zs.length ≤ 1048576) :
    Calls Tryd.prog 81 #[.slice A zs.length c] w fun e w' => e = .returned (.bool (lstB zs)) ∧ w = w' := by
  have HR := Lib.hid hr
  clear hr
  go_enter Tryd.func81, Tryd.ntmps81
  go_wp2
  go_loop [3] (fun i => ∃ k : Nat, k ≤ zs.length ∧ i = .int .i64 k ∧ Hid (valTo zs k)) (fun i => zs.length - (intOf i).toNat)
  case atStart => exact ⟨0, Nat.zero_le _, rfl, fun j hj => absurd hj (Nat.not_lt_zero _)⟩
  case round =>
    obtain ⟨k, hk, rfl, hI⟩ := hrel
    by_cases hlt : k < zs.length
    · obtain ⟨b, off, rfl, hb, hcell⟩ := HR.out (by omega)
      have hc := hcell k hlt
      clear hcell
      by_cases hok : okV (atI zs k)
      · have hdk : decide (okV (atI zs k)) = true := decide_eq_true hok
        have N : Hid (valTo zs (k + 1)) := fun j hj => by
          by_cases e : j = k
          · rw [e]; exact hok
          · exact hI.out j (by omega)
        clear hok hI
        go_wp2_with (go_at_call 119; refine (in_val _ _).mono ?_; rintro e w' ⟨rfl, rfl⟩)
        go_round
        case rel => exact ⟨k + 1, by omega, by go_num, N⟩
        case measure => simp [intOf]; omega
      · have hdk : decide (okV (atI zs k)) = false := decide_eq_false hok
        have N : Hid (lstB zs = false) := by show lstB zs = false; unfold lstB; rw [all_not hlt hok]; rfl
        clear hok hI
        go_wp2_with (go_at_call 119; refine (in_val _ _).mono ?_; rintro e w' ⟨rfl, rfl⟩)
        go_ret
        exact ⟨by rw [N.out]; rfl, rfl⟩
    · have N : Hid (lstB zs = decide ((zs.length : Int) ≤ 64)) := by
        show lstB zs = _
        unfold lstB
        rw [valTo_all (show valTo zs zs.length from (show k = zs.length by omega) ▸ hI.out), Bool.true_and]
        exact decide_eq_decide.2 (by omega)
      go_wp2
      go_ret
      exact ⟨by rw [N.out]; rfl, rfl⟩

end Go.Proofs.YtegbclfjcckglaaDoor
