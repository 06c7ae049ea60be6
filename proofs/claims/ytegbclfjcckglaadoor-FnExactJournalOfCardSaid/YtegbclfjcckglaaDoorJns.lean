/-
  What is proved here: JournalOf of the model, as a walk. Conditions: texts of at most 1048576 bytes.
-/
import Derived.Test.YtegbclfjcckglaaDoorJnp
import Derived.Laws.Concat
import Derived.Deep.RegionHeld3
namespace Go.Proofs.YtegbclfjcckglaaDoor
open Go.RowKit

set_option maxHeartbeats 1000000 in
set_option maxRecDepth 10000 in
theorem specJn (A : Option Addr) (c : Nat) (ss : List ByteArray) (w : World) (hr : RowT w w.heap.size A ss) (hN : ss.length ≤ 1048576) (hS : ∀ j, j < ss.length → (atT ss j).size ≤ 1048576) (hT : totTo ss ss.length ≤ 16000) :
    Calls Tryd.prog 72 #[.slice A ss.length c] w fun e w' => e = .returned (.string ⟨(joL 0 ss).toArray⟩) ∧ Hid (Below w.heap.size w w') := by
  have HR := Lib.hid hr
  have HS := Lib.hid hS
  have HLen : Hid (∀ k, k ≤ ss.length → (joTo ss k).length ≤ 200000000) := fun k hk => by
    have h1 := (joTo_len k hk).2
    have h2 : totTo ss k ≤ totTo ss ss.length := by
      have key : ∀ d, totTo ss k ≤ totTo ss (k + d) := by
        intro d
        induction d with
        | zero => exact Nat.le_refl _
        | succ d ih => exact Nat.le_trans ih (Nat.le_add_right (totTo ss (k + d)) ((atT ss (k + d)).size + 3))
      have := key (ss.length - k)
      rwa [show k + (ss.length - k) = ss.length by omega] at this
    omega
  have HA : Hid ((⟨(joTo ss ss.length).toArray⟩ : ByteArray) = ⟨(joL 0 ss).toArray⟩) := by show _ = _; rw [joTo_all]
  clear hr hS hT
  go_enter Tryd.func72, Tryd.ntmps72
  go_wp2_with fail
  go_loopw [3, 4, 5] (fun o q i wr => ∃ k : Nat, k ≤ ss.length ∧ i = .int .i64 k ∧ q = .int .i64 (ckTo ss k) ∧ o = .string ⟨(joTo ss k).toArray⟩ ∧ Hid (Below w.heap.size w wr)) (fun _ _ i _ => ss.length - (intOf i).toNat)
  case atStart => exact ⟨0, Nat.zero_le _, rfl, rfl, rfl, Below.refl _ _⟩
  case round =>
    obtain ⟨k, hk, rfl, rfl, rfl, hB⟩ := hrel
    by_cases hlt : k < ss.length
    · obtain ⟨b, off, rfl, hb, hcell⟩ := HR.out (by omega)
      have hc := hcell k hlt
      rw [← hB.out.cell (p := ⟨b, _, none⟩) hb] at hc
      have hx := HS.out k hlt
      have hcb := ckTo_bd (ss := ss) k hk
      have hl1 := HLen.out k hk
      have hjs := joTo_succ hlt
      have hcs := ckTo_succ hlt
      generalize hJ2 : joTo ss (k + 1) = J2 at *
      generalize hc2' : ckTo ss (k + 1) = c2 at *
      generalize joTo ss k = J at *
      generalize ckTo ss k = cc at *
      generalize atT ss k = x at *
      have HCk := Lib.hid (fun W => specCheck cc x hcb hx W)
      have hc2 := chk_bd cc x.data.toList hcb
      have HDe := Lib.hid (fun W => specDec (chk cc x.data.toList) (by omega) (by omega) W)
      have hl := (itoa_short (n := chk cc x.data.toList) ⟨by omega, by omega⟩).2
      have s1 : (⟨(Lib.itoa (chk cc x.data.toList)).toArray⟩ : ByteArray).size ≤ 22 := by show (List.toArray _).size ≤ _; simp; omega
      have a1 : ∀ W : World, (Op.stringOp .add ⟨(Lib.itoa (chk cc x.data.toList)).toArray⟩ ⟨#[32]⟩).run Tryd.prog W = .ok (.string ((⟨(Lib.itoa (chk cc x.data.toList)).toArray⟩ : ByteArray) ++ ⟨#[32]⟩)) W := fun W => run_string_add_sum W _ _ (by show _ + 1 ≤ _; omega)
      have a2 : ∀ W : World, (Op.stringOp .add ((⟨(Lib.itoa (chk cc x.data.toList)).toArray⟩ : ByteArray) ++ ⟨#[32]⟩) x).run Tryd.prog W = .ok (.string (((⟨(Lib.itoa (chk cc x.data.toList)).toArray⟩ : ByteArray) ++ ⟨#[32]⟩) ++ x)) W := fun W => run_string_add_sum W _ _ (by rw [ByteArray.size_append]; show _ + 1 + _ ≤ _; omega)
      have a3 : ∀ W : World, (Op.stringOp .add (((⟨(Lib.itoa (chk cc x.data.toList)).toArray⟩ : ByteArray) ++ ⟨#[32]⟩) ++ x) ⟨#[10]⟩).run Tryd.prog W = .ok (.string ((((⟨(Lib.itoa (chk cc x.data.toList)).toArray⟩ : ByteArray) ++ ⟨#[32]⟩) ++ x) ++ ⟨#[10]⟩)) W := fun W => run_string_add_sum W _ _ (by rw [ByteArray.size_append, ByteArray.size_append]; show _ + 1 + _ + 1 ≤ _; omega)
      have a4 : ∀ W : World, (Op.stringOp .add ⟨J.toArray⟩ ((((⟨(Lib.itoa (chk cc x.data.toList)).toArray⟩ : ByteArray) ++ ⟨#[32]⟩) ++ x) ++ ⟨#[10]⟩)).run Tryd.prog W = .ok (.string ⟨J2.toArray⟩) W := fun W => by
        have e : (⟨J2.toArray⟩ : ByteArray) = (⟨J.toArray⟩ : ByteArray) ++ ((((⟨(Lib.itoa (chk cc x.data.toList)).toArray⟩ : ByteArray) ++ ⟨#[32]⟩) ++ x) ++ ⟨#[10]⟩) := by
          apply ba_extJ
          rw [ba_appJ, ba_appJ, ba_appJ, ba_appJ, hjs]
          unfold entT
          simp
        rw [e]
        refine run_string_add_sum W _ _ ?_
        rw [ByteArray.size_append, ByteArray.size_append, ByteArray.size_append]
        show (List.toArray _).size + (_ + 1 + _ + 1) ≤ _
        simp only [List.size_toArray]
        omega
      have hBd : Hid (Below w.heap.size w wr.drew) := hB.out.drew
      have HC2 : Hid (chk cc x.data.toList = ckTo ss (k + 1)) := by show _ = _; rw [hc2']; exact hcs.symm
      have HO2 : Hid ((⟨J2.toArray⟩ : ByteArray) = ⟨(joTo ss (k + 1)).toArray⟩) := by show _ = _; rw [hJ2]
      clear hcell hl s1 hjs hcs hc2 hx hl1 hcb hJ2 hc2'
      generalize (((⟨(Lib.itoa (chk cc x.data.toList)).toArray⟩ : ByteArray) ++ ⟨#[32]⟩) ++ x) ++ ⟨#[10]⟩ = z4 at *
      generalize ((⟨(Lib.itoa (chk cc x.data.toList)).toArray⟩ : ByteArray) ++ ⟨#[32]⟩) ++ x = z3 at *
      generalize (⟨(Lib.itoa (chk cc x.data.toList)).toArray⟩ : ByteArray) ++ ⟨#[32]⟩ = z2 at *
      generalize (⟨(Lib.itoa (chk cc x.data.toList)).toArray⟩ : ByteArray) = z1 at *
      generalize chk cc x.data.toList = c3 at *
      generalize (⟨J.toArray⟩ : ByteArray) = o1 at *
      generalize (⟨J2.toArray⟩ : ByteArray) = o2 at *
      go_wp2_with fail
      refine (HCk.out _).mono ?_
      rintro e w2 ⟨rfl, rfl⟩
      go_wp2_with fail
      go_region_held3 (fun w' => w'.cell? ⟨b, off + k, none⟩ = some (.string x) ∧ Hid (Below w.heap.size w w')) (first | (exact ⟨by assumption, by assumption⟩) | go_keep)
        ((go_at_call 114; refine (HDe.out _).mono ?_; rintro e w3 ⟨rfl, hb3⟩; obtain ⟨hk1, hk2⟩ := keepT1 (o := off + k) (v := .string x) hb3 (by assumption) (by assumption) hb))
      clear hb3 hBd hB hc hk1
      go_wp2_with fail
      go_roundw
      case rel => exact ⟨k + 1, by omega, by go_num, by rw [HC2.out], by rw [HO2.out], hk2⟩
      case measure => simp [intOf]; omega
    · have HK : Hid (k = ss.length) := by show k = _; omega
      go_wp2_with fail
      go_ret
      exact ⟨by rw [← HA.out, HK.out]; rfl, hB⟩

/-- what both functions give -/
def JNP (ss : List ByteArray) (w : World) (e : Ending) (w' : World) : Prop := e = .returned (.tuple #[.string (jnT ss), .bool (jB ss)]) ∧ Hid (Below w.heap.size w w')

set_option maxHeartbeats 1000000 in
theorem specJO (A : Option Addr) (c : Nat) (ss : List ByteArray) (w : World) (hr : RowT w w.heap.size A ss) (hN : ss.length ≤ 1048576) (hS : ∀ j, j < ss.length → (atT ss j).size ≤ 1048576) :
    Calls Tryd.prog 27 #[.slice A ss.length c] w (JNP ss w) := by
  have HR := Lib.hid hr
  have HS := Lib.hid hS
  have HJ : Hid (totTo ss ss.length ≤ 16000 → Calls Tryd.prog 72 #[.slice A ss.length c] w fun e w' => e = .returned (.string ⟨(joL 0 ss).toArray⟩) ∧ Hid (Below w.heap.size w w')) := fun h => specJn A c ss w hr hN hS h
  clear hr hS
  go_enter Tryd.func27, Tryd.ntmps27
  go_wp2_with fail
  go_loop [4, 5] (fun t i => ∃ k : Nat, k ≤ ss.length ∧ i = .int .i64 k ∧ t = .int .i64 (totTo ss k : Nat) ∧ totTo ss k ≤ 16000 ∧ Hid (∀ j, j < k → (10 : UInt8) ∉ (atT ss j).data.toList)) (fun _ i => ss.length - (intOf i).toNat)
  case atStart => exact ⟨0, Nat.zero_le _, rfl, rfl, Nat.zero_le _, fun j h => absurd h (Nat.not_lt_zero _)⟩
  case round =>
    obtain ⟨k, hk, rfl, rfl, ht, hJ⟩ := hrel
    by_cases hlt : k < ss.length
    · obtain ⟨b, off, rfl, hb, hcell⟩ := HR.out (by omega)
      have hc := hcell k hlt
      have hx := HS.out k hlt
      have hts : totTo ss (k + 1) = totTo ss k + ((atT ss k).size + 3) := rfl
      by_cases hbig : 16000 < totTo ss (k + 1)
      · have N := Lib.hid (jb_tot (by omega) hbig)
        have e1 : decide ((16000 : Int) < (totTo ss k : Int) + (((atT ss k).size : Int) + 3)) = true := decide_eq_true (by omega)
        clear hcell hJ
        generalize totTo ss (k + 1) = t2 at *
        generalize totTo ss k = t1 at *
        generalize atT ss k = x at *
        go_wp2_with fail
        go_ret2
        exact ⟨by rw [N.out.1, N.out.2]; rfl, Below.refl _ _⟩
      · have e1 : decide ((16000 : Int) < (totTo ss k : Int) + (((atT ss k).size : Int) + 3)) = false := decide_eq_false (by omega)
        have HTS := Lib.hid hts
        have HJL : Hid ((10 : UInt8) ∈ (atT ss k).data.toList → jB ss = false ∧ jnT ss = ⟨#[]⟩) := fun h => jb_line hlt h
        have HJ2 : Hid ((10 : UInt8) ∉ (atT ss k).data.toList → ∀ j, j < k + 1 → (10 : UInt8) ∉ (atT ss j).data.toList) := fun h j hj => by
          by_cases e : j = k
          · rw [e]; exact h
          · exact hJ.out j (by omega)
        have ht2 : totTo ss (k + 1) ≤ 16000 := by omega
        clear hcell hJ hts hbig
        generalize hT2 : totTo ss (k + 1) = t2 at *
        have HT2 := Lib.hid hT2
        clear hT2
        generalize totTo ss k = t1 at *
        generalize atT ss k = x at *
        go_wp2_with fail
        go_loop [6] (fun j => ∃ i : Nat, i ≤ x.size ∧ j = .int .i64 i ∧ Hid (plainD 10 (x.data.toList.take i))) (fun j => x.size - (intOf j).toNat)
        case atStart => exact ⟨0, Nat.zero_le _, rfl, fun y hy => by simp at hy⟩
        case round =>
          obtain ⟨i, hi, rfl, hpl⟩ := hrel
          by_cases hi2 : i < x.size
          · by_cases h10 : x[i]'hi2 = 10
            · have hcb2 : (((x[i]'hi2).toNat : Int) == 10) = true := by rw [h10]; rfl
              have N := Lib.hid (HJL.out (by
                have : x[i]'hi2 ∈ x.data.toList := by
                  have := List.getElem_mem (l := x.data.toList) (n := i) (by rw [size_list]; exact hi2)
                  exact this
                rwa [h10] at this))
              clear h10 hpl
              go_wp2_with fail
              go_ret2
              exact ⟨by rw [N.out.1, N.out.2]; rfl, Below.refl _ _⟩
            · have hcb2 : (((x[i]'hi2).toNat : Int) == 10) = false := by
                rw [beq_eq_false_iff_ne]; intro e; exact h10 (UInt8.toNat_inj.1 (by have : (10 : UInt8).toNat = 10 := rfl; omega))
              have N : Hid (plainD 10 (x.data.toList.take (i + 1))) := by
                intro y hy
                have he : x.data.toList.take (i + 1) = x.data.toList.take i ++ [x[i]'hi2] := by
                  rw [List.take_succ_eq_append_getElem (by rw [size_list]; exact hi2)]; rfl
                rw [he, List.mem_append, List.mem_singleton] at hy
                rcases hy with hy | hy
                · exact hpl.out y hy
                · rw [hy]; exact h10
              clear h10 hpl
              go_wp2_with fail
              go_round
              case rel => exact ⟨i + 1, by omega, by go_num, N⟩
              case measure => simp [intOf]; omega
          · have N := Lib.hid (HJ2.out (by
              have hp := hpl.out
              rw [List.take_of_length_le (by rw [size_list]; omega)] at hp
              exact fun h => hp 10 h rfl))
            clear hpl
            go_wp2_with fail
            go_round
            case rel => exact ⟨k + 1, by omega, by go_num, by rw [HT2.out, HTS.out]; first | rfl | go_num, by rw [HT2.out]; exact ht2, N⟩
            case measure => simp [intOf]; omega
    · obtain rfl : k = ss.length := by omega
      have HC := Lib.hid (HJ.out ht)
      have hlen : (joL 0 ss).length ≤ 200000000 := by
        have := (joTo_len ss.length (Nat.le_refl _)).2
        rw [joTo_all] at this
        omega
      have hsz : (⟨(joL 0 ss).toArray⟩ : ByteArray).size = (joL 0 ss).length := by show (List.toArray _).size = _; simp
      by_cases hbig : 16000 < (joL 0 ss).length
      · have N := Lib.hid (jb_long (k := ss.length) (by rw [joTo_all]; exact hbig))
        have e1 : decide ((16000 : Int) < ((⟨(joL 0 ss).toArray⟩ : ByteArray).size : Int)) = true := decide_eq_true (by rw [hsz]; omega)
        clear hsz hbig hJ hlen HJ
        generalize (⟨(joL 0 ss).toArray⟩ : ByteArray) = o at *
        go_wp2_with fail
        refine HC.out.mono ?_
        rintro e w1 ⟨rfl, hB⟩
        go_wp2_with fail
        go_ret2
        exact ⟨by rw [N.out.1, N.out.2]; rfl, hB⟩
      · have N := Lib.hid (jb_yes hJ.out (by omega))
        have e1 : decide ((16000 : Int) < ((⟨(joL 0 ss).toArray⟩ : ByteArray).size : Int)) = false := decide_eq_false (by rw [hsz]; omega)
        clear hsz hbig hJ hlen HJ
        generalize (⟨(joL 0 ss).toArray⟩ : ByteArray) = o at *
        go_wp2_with fail
        refine HC.out.mono ?_
        rintro e w1 ⟨rfl, hB⟩
        go_wp2_with fail
        go_ret2
        exact ⟨by rw [N.out.1, N.out.2]; rfl, hB⟩

end Go.Proofs.YtegbclfjcckglaaDoor
