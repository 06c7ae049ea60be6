/-
  What is proved here: pairs of the table, the products of eighths, and eighths themselves. Conditions: none. Own text; no dump.
-/
import Derived.Test.YtebijgjdeofalaaTab
namespace Go.Proofs.Ytebijgjdeofalaa
namespace Flt
def pairB (i j : Nat) : Bool := andB (andB (Nat.ble 1 (code (Nat.mul i j))) (eqO (mulF .f32 (xw (Nat.mul 8 i)) (xw (Nat.mul 8 j))) (xw (Nat.mul i j)))) (andB (Nat.ble (Nat.add (code (Nat.mul 8 i)) (code (Nat.mul 8 j))) (Nat.add (code (Nat.mul i j)) 513)) (Nat.ble (Nat.add (code (Nat.mul i j)) 511) (Nat.add (code (Nat.mul 8 i)) (code (Nat.mul 8 j)))))
theorem pair0 : allR (fun i => allR (fun j => pairB i j) 1 200) 1 10 = true := by kernel_rfl
theorem pair1 : allR (fun i => allR (fun j => pairB i j) 1 200) 11 10 = true := by kernel_rfl
theorem pair2 : allR (fun i => allR (fun j => pairB i j) 1 200) 21 10 = true := by kernel_rfl
theorem pair3 : allR (fun i => allR (fun j => pairB i j) 1 200) 31 10 = true := by kernel_rfl
theorem pair4 : allR (fun i => allR (fun j => pairB i j) 1 200) 41 10 = true := by kernel_rfl
theorem pair5 : allR (fun i => allR (fun j => pairB i j) 1 200) 51 10 = true := by kernel_rfl
theorem pair6 : allR (fun i => allR (fun j => pairB i j) 1 200) 61 10 = true := by kernel_rfl
theorem pair7 : allR (fun i => allR (fun j => pairB i j) 1 200) 71 10 = true := by kernel_rfl
theorem pair8 : allR (fun i => allR (fun j => pairB i j) 1 200) 81 10 = true := by kernel_rfl
theorem pair9 : allR (fun i => allR (fun j => pairB i j) 1 200) 91 10 = true := by kernel_rfl
theorem pair10 : allR (fun i => allR (fun j => pairB i j) 1 200) 101 10 = true := by kernel_rfl
theorem pair11 : allR (fun i => allR (fun j => pairB i j) 1 200) 111 10 = true := by kernel_rfl
theorem pair12 : allR (fun i => allR (fun j => pairB i j) 1 200) 121 10 = true := by kernel_rfl
theorem pair13 : allR (fun i => allR (fun j => pairB i j) 1 200) 131 10 = true := by kernel_rfl
theorem pair14 : allR (fun i => allR (fun j => pairB i j) 1 200) 141 10 = true := by kernel_rfl
theorem pair15 : allR (fun i => allR (fun j => pairB i j) 1 200) 151 10 = true := by kernel_rfl
theorem pair16 : allR (fun i => allR (fun j => pairB i j) 1 200) 161 10 = true := by kernel_rfl
theorem pair17 : allR (fun i => allR (fun j => pairB i j) 1 200) 171 10 = true := by kernel_rfl
theorem pair18 : allR (fun i => allR (fun j => pairB i j) 1 200) 181 10 = true := by kernel_rfl
theorem pair19 : allR (fun i => allR (fun j => pairB i j) 1 200) 191 10 = true := by kernel_rfl
def eighB (i : Nat) : Bool := andB (eqO (quoF .f32 (ofIntK .f32 (i : Int)) 1090519040) (xw (Nat.mul 8 i))) (Nat.ble 1 (code (Nat.mul 8 i)))
theorem eighths : allR eighB 1 200 = true := by kernel_rfl
theorem pairs (i j : Nat) (h1 : 1 ≤ i) (h2 : i ≤ 200) (h3 : 1 ≤ j) (h4 : j ≤ 200) : pairB i j = true := by
  suffices h : allR (fun j => pairB i j) 1 200 = true from allR_at h j h3 (by omega)
  have hk : i < 11 ∨ (11 ≤ i ∧ i < 21) ∨ (21 ≤ i ∧ i < 31) ∨ (31 ≤ i ∧ i < 41) ∨ (41 ≤ i ∧ i < 51) ∨ (51 ≤ i ∧ i < 61) ∨ (61 ≤ i ∧ i < 71) ∨ (71 ≤ i ∧ i < 81) ∨ (81 ≤ i ∧ i < 91) ∨ (91 ≤ i ∧ i < 101) ∨ (101 ≤ i ∧ i < 111) ∨ (111 ≤ i ∧ i < 121) ∨ (121 ≤ i ∧ i < 131) ∨ (131 ≤ i ∧ i < 141) ∨ (141 ≤ i ∧ i < 151) ∨ (151 ≤ i ∧ i < 161) ∨ (161 ≤ i ∧ i < 171) ∨ (171 ≤ i ∧ i < 181) ∨ (181 ≤ i ∧ i < 191) ∨ (191 ≤ i ∧ i < 201) := by omega
  rcases hk with hk | hk | hk | hk | hk | hk | hk | hk | hk | hk | hk | hk | hk | hk | hk | hk | hk | hk | hk | hk
  · exact allR_at pair0 i (by omega) (by omega)
  · exact allR_at pair1 i (by omega) (by omega)
  · exact allR_at pair2 i (by omega) (by omega)
  · exact allR_at pair3 i (by omega) (by omega)
  · exact allR_at pair4 i (by omega) (by omega)
  · exact allR_at pair5 i (by omega) (by omega)
  · exact allR_at pair6 i (by omega) (by omega)
  · exact allR_at pair7 i (by omega) (by omega)
  · exact allR_at pair8 i (by omega) (by omega)
  · exact allR_at pair9 i (by omega) (by omega)
  · exact allR_at pair10 i (by omega) (by omega)
  · exact allR_at pair11 i (by omega) (by omega)
  · exact allR_at pair12 i (by omega) (by omega)
  · exact allR_at pair13 i (by omega) (by omega)
  · exact allR_at pair14 i (by omega) (by omega)
  · exact allR_at pair15 i (by omega) (by omega)
  · exact allR_at pair16 i (by omega) (by omega)
  · exact allR_at pair17 i (by omega) (by omega)
  · exact allR_at pair18 i (by omega) (by omega)
  · exact allR_at pair19 i (by omega) (by omega)

end Flt
end Go.Proofs.Ytebijgjdeofalaa
