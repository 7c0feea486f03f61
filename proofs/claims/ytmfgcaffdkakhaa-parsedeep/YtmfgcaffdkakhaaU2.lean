/- Own text. What must come whatever the input is: the statement's own four examples. -/
import Derived.Test.YtmfgcaffdkakhaaU1
namespace Go.Proofs.Ytmfgcaffdkakhaa
open Go.RowKit
set_option linter.unusedVariables false
set_option linter.unusedSimpArgs false
set_option maxRecDepth 100000

def src1 : List UInt8 := [97, 32, 43, 32, 98, 32, 42, 32, 99, 59]
def src2 : List UInt8 := [40, 97, 32, 124, 32, 98, 41, 91, 93, 32, 124, 32, 40, 41, 32, 61, 62, 32, 99]
def src3 : List UInt8 := [105, 102, 32, 40, 97, 41, 32, 123, 32, 125, 32, 101, 108, 115, 101, 32, 105, 102, 32, 40, 98, 41, 32, 123, 32, 114, 101, 116, 117, 114, 110, 59, 32, 125]
def src4 : List UInt8 := [40, 97, 44, 32, 98, 41]
theorem okB {s : List UInt8} (n : Nat) (h : (match lexL 0 s true with | .ok ts => decide (ts.length ≤ 4194304) && ts.all (fun x => decide (x.1.2.1.length ≤ 4194304)) | .error _ => true) = true) : ∀ ts, lexL 0 s true = .ok ts → ts.length ≤ 4194304 ∧ ∀ x ∈ ts, x.1.2.1.length ≤ 4194304 := by
  intro ts e
  rw [e] at h
  simp only [Bool.and_eq_true, decide_eq_true_eq, List.all_eq_true] at h
  exact h
theorem okB1 : ∀ ts, lexL 0 src1 true = .ok ts → ts.length ≤ 4194304 ∧ ∀ x ∈ ts, x.1.2.1.length ≤ 4194304 := okB 0 (by kernel_rfl)
theorem okB2 : ∀ ts, lexL 0 src2 true = .ok ts → ts.length ≤ 4194304 ∧ ∀ x ∈ ts, x.1.2.1.length ≤ 4194304 := okB 0 (by kernel_rfl)
theorem okB3 : ∀ ts, lexL 0 src3 true = .ok ts → ts.length ≤ 4194304 ∧ ∀ x ∈ ts, x.1.2.1.length ≤ 4194304 := okB 0 (by kernel_rfl)
theorem okB4 : ∀ ts, lexL 0 src4 true = .ok ts → ts.length ≤ 4194304 ∧ ∀ x ∈ ts, x.1.2.1.length ≤ 4194304 := okB 0 (by kernel_rfl)
/-- what is looked at of an answer: the tree's kind, text and how many kids; the place; the error. -/
def seen (r : Rs Nd) : Int × List UInt8 × Nat × Nat × Int := match r with
  | .ok x b => (x.k, x.t.data.toList, x.ks.length, b, 0)
  | .bad p e => (0, [], 0, p, e)
theorem fuel_big (L : List Tok) : 200 ≤ fuelL L := by unfold fuelL; omega
theorem eq1 : seen (exprF (srcT src1) 200 0 0) = (16, [43], 2, 5, 0) := by kernel_rfl
theorem eq2 : (seen (typeF (srcT src2) 200 0 0)).1 = 32 ∧ (seen (typeF (srcT src2) 200 0 0)).2.2.1 = 2 ∧ (seen (typeF (srcT src2) 200 0 0)).2.2.2.2 = 0 := ⟨by kernel_rfl, by kernel_rfl, by kernel_rfl⟩
theorem eq3 : (seen (stmtF (srcT src3) 200 0 0)).1 = 48 ∧ (seen (stmtF (srcT src3) 200 0 0)).2.2 = (3, 15, 0) := ⟨by kernel_rfl, by kernel_rfl⟩
theorem eq4 : seen (exprF (srcT src4) 200 0 0) = (0, [], 0, 2, 60) := by kernel_rfl
end Go.Proofs.Ytmfgcaffdkakhaa
