/- Own text. ParseDeep: the lowest bit of a number. -/
import Derived.Test.YtmfgcaffdkakhaaC1
namespace Go.Proofs.Ytmfgcaffdkakhaa
open Go.RowKit
set_option linter.unusedVariables false
set_option linter.unusedSimpArgs false
set_option maxRecDepth 100000

theorem bit_low (k : Int) : bits .and .i64 k 1 = 0 ∨ bits .and .i64 k 1 = 1 := by
  have h : (BitVec.ofInt 64 k &&& BitVec.ofInt 64 1).toNat = 0 ∨ (BitVec.ofInt 64 k &&& BitVec.ofInt 64 1).toNat = 1 := by
    rw [BitVec.toNat_and, show (BitVec.ofInt 64 1).toNat = 1 from rfl, Nat.and_one_is_mod]
    omega
  rcases h with h | h
  · left
    show IntKind.i64.wrap ((BitVec.ofInt 64 k &&& BitVec.ofInt 64 1).toNat : Int) = 0
    rw [h]; decide
  · right
    show IntKind.i64.wrap ((BitVec.ofInt 64 k &&& BitVec.ofInt 64 1).toNat : Int) = 1
    rw [h]; decide
end Go.Proofs.Ytmfgcaffdkakhaa
