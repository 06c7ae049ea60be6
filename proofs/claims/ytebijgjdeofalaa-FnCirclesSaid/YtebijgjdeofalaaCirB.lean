/-
  What is proved here: products of phasors of 64ths of turns are nearly those of the sums. Conditions: none. Own text; no dump.
-/
import Derived.Test.YtebijgjdeofalaaCirA
namespace Go.Proofs.Ytebijgjdeofalaa
open Flt
namespace Flt
open Ieee

/-- a product's parts, before they are narrowed -/
def mulO1 (a b c d : Nat) : Option Nat := bindO (mulF .f64 a c) fun p => bindO (mulF .f64 b d) fun q => addF .f64 true p q
def mulO2 (a b c d : Nat) : Option Nat := bindO (mulF .f64 a d) fun p => bindO (mulF .f64 b c) fun q => addF .f64 false p q
def nearB (r X : Nat) : Bool := onO (narF r) fun p => onO (widF p) fun P => andB (finF .f64 P) (onO (gapO P X) fun g => notGt g c1e4)
def prB (i j : Nat) : Bool := andB (onO (mulO1 (WR i) (WI i) (WR j) (WI j)) fun r => nearB r (WR (Nat.mod (Nat.add i j) 64))) (onO (mulO2 (WR i) (WI i) (WR j) (WI j)) fun r => nearB r (WI (Nat.mod (Nat.add i j) 64)))
theorem prs0 : allR (fun i => allR (fun j => prB i j) 0 64) 0 4 = true := by kernel_rfl
theorem prs1 : allR (fun i => allR (fun j => prB i j) 0 64) 4 4 = true := by kernel_rfl
theorem prs2 : allR (fun i => allR (fun j => prB i j) 0 64) 8 4 = true := by kernel_rfl
theorem prs3 : allR (fun i => allR (fun j => prB i j) 0 64) 12 4 = true := by kernel_rfl
theorem prs4 : allR (fun i => allR (fun j => prB i j) 0 64) 16 4 = true := by kernel_rfl
theorem prs5 : allR (fun i => allR (fun j => prB i j) 0 64) 20 4 = true := by kernel_rfl
theorem prs6 : allR (fun i => allR (fun j => prB i j) 0 64) 24 4 = true := by kernel_rfl
theorem prs7 : allR (fun i => allR (fun j => prB i j) 0 64) 28 4 = true := by kernel_rfl
theorem prs8 : allR (fun i => allR (fun j => prB i j) 0 64) 32 4 = true := by kernel_rfl
theorem prs9 : allR (fun i => allR (fun j => prB i j) 0 64) 36 4 = true := by kernel_rfl
theorem prs10 : allR (fun i => allR (fun j => prB i j) 0 64) 40 4 = true := by kernel_rfl
theorem prs11 : allR (fun i => allR (fun j => prB i j) 0 64) 44 4 = true := by kernel_rfl
theorem prs12 : allR (fun i => allR (fun j => prB i j) 0 64) 48 4 = true := by kernel_rfl
theorem prs13 : allR (fun i => allR (fun j => prB i j) 0 64) 52 4 = true := by kernel_rfl
theorem prs14 : allR (fun i => allR (fun j => prB i j) 0 64) 56 4 = true := by kernel_rfl
theorem prs15 : allR (fun i => allR (fun j => prB i j) 0 64) 60 4 = true := by kernel_rfl
theorem pr_at (i j : Nat) (h1 : i < 64) (h2 : j < 64) : prB i j = true := by
  suffices h : allR (fun j => prB i j) 0 64 = true from allR_at h j (Nat.zero_le _) (by omega)
  have hk : i < 4 ∨ (4 ≤ i ∧ i < 8) ∨ (8 ≤ i ∧ i < 12) ∨ (12 ≤ i ∧ i < 16) ∨ (16 ≤ i ∧ i < 20) ∨ (20 ≤ i ∧ i < 24) ∨ (24 ≤ i ∧ i < 28) ∨ (28 ≤ i ∧ i < 32) ∨ (32 ≤ i ∧ i < 36) ∨ (36 ≤ i ∧ i < 40) ∨ (40 ≤ i ∧ i < 44) ∨ (44 ≤ i ∧ i < 48) ∨ (48 ≤ i ∧ i < 52) ∨ (52 ≤ i ∧ i < 56) ∨ (56 ≤ i ∧ i < 60) ∨ (60 ≤ i ∧ i < 64) := by omega
  rcases hk with hk | hk | hk | hk | hk | hk | hk | hk | hk | hk | hk | hk | hk | hk | hk | hk
  · exact allR_at prs0 i (by omega) (by omega)
  · exact allR_at prs1 i (by omega) (by omega)
  · exact allR_at prs2 i (by omega) (by omega)
  · exact allR_at prs3 i (by omega) (by omega)
  · exact allR_at prs4 i (by omega) (by omega)
  · exact allR_at prs5 i (by omega) (by omega)
  · exact allR_at prs6 i (by omega) (by omega)
  · exact allR_at prs7 i (by omega) (by omega)
  · exact allR_at prs8 i (by omega) (by omega)
  · exact allR_at prs9 i (by omega) (by omega)
  · exact allR_at prs10 i (by omega) (by omega)
  · exact allR_at prs11 i (by omega) (by omega)
  · exact allR_at prs12 i (by omega) (by omega)
  · exact allR_at prs13 i (by omega) (by omega)
  · exact allR_at prs14 i (by omega) (by omega)
  · exact allR_at prs15 i (by omega) (by omega)

end Flt
end Go.Proofs.Ytebijgjdeofalaa
