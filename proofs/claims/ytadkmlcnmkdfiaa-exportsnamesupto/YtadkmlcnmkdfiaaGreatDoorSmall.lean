/- The contracts of the small functions of package runes and of the document's answer: letters and digits. -/
import Derived.Test.YtadkmlcnmkdfiaaGreatDoorProg
import Derived.WalkKit
import Derived.Lib.RuneCount
namespace Go.Proofs.YtadkmlcnmkdfiaaGreatDoor
open Go.RowKit

def letterB (r : Int) : Bool :=
  decide ((97 ≤ r ∧ r ≤ 122) ∨ (65 ≤ r ∧ r ≤ 90) ∨ (192 ≤ r ∧ r ≤ 591 ∧ r ≠ 215 ∧ r ≠ 247) ∨ (913 ≤ r ∧ r ≤ 969 ∧ r ≠ 930) ∨ (1040 ≤ r ∧ r ≤ 1103))
def digitB (r : Int) : Bool := decide (48 ≤ r ∧ r ≤ 57)
/-- The digit that a rune is in a hexadecimal number; -1: none. -/
def hexv (r : Int) : Int :=
  if 48 ≤ r ∧ r ≤ 57 then r - 48 else if 97 ≤ r ∧ r ≤ 102 then r - 87 else if 65 ≤ r ∧ r ≤ 70 then r - 55 else -1

def hexd (r : Int) : Int := if hexv r < 0 then 0 else hexv r
def hexok (r : Int) : Bool := decide (0 ≤ hexv r)

theorem ret_bool {a b : Bool} (h : a = b) : Ending.returned (.bool a) = .returned (.bool b) := by rw [h]
theorem ret_int {k : IntKind} {a b : Int} (h : a = b) : Ending.returned (.int k a) = .returned (.int k b) := by rw [h]
theorem hexv_range (r : Int) : -1 ≤ hexv r ∧ hexv r ≤ 15 := by
  unfold hexv
  repeat' split
  all_goals omega

theorem letter_any (r : Int) (w : World) :
    Calls Tryz.prog 175 #[.int .i32 r] w fun e w' => e = .returned (.bool (letterB r)) ∧ w' = w := by
  go_enter Tryz.func175, Tryz.ntmps175
  go_wp2
  all_goals go_ret
  all_goals (refine ⟨ret_bool ?_, rfl⟩; rw [Bool.eq_iff_iff]; simp [letterB]; omega)

theorem refLetter_any (r : Int) (w : World) :
    Calls Tryz.prog 169 #[.int .i64 r] w fun e w' => e = .returned (.bool (letterB r)) ∧ w' = w := by
  go_enter Tryz.func169, Tryz.ntmps169
  go_wp2
  all_goals go_ret
  all_goals (refine ⟨ret_bool ?_, rfl⟩; rw [Bool.eq_iff_iff]; simp [letterB]; omega)

theorem digit_any (r : Int) (w : World) :
    Calls Tryz.prog 176 #[.int .i32 r] w fun e w' => e = .returned (.bool (digitB r)) ∧ w' = w := by
  go_enter Tryz.func176, Tryz.ntmps176
  go_wp2
  all_goals go_ret
  all_goals (refine ⟨ret_bool ?_, rfl⟩; rw [Bool.eq_iff_iff]; simp [digitB]; omega)

theorem ret_ib {k : IntKind} {a c : Int} {b d : Bool} (h : a = c) (h2 : b = d) : Ending.returned (.tuple #[.int k a, .bool b]) = .returned (.tuple #[.int k c, .bool d]) := by rw [h, h2]

theorem refDigit_any (r : Int) (w : World) (h0 : 0 ≤ r) (h1 : r ≤ 255) :
    Calls Tryz.prog 181 #[.int .u8 r] w fun e w' => e = .returned (.int .i64 (hexv r)) ∧ w' = w := by
  go_enter Tryz.func181, Tryz.ntmps181
  go_wp2
  all_goals go_ret
  all_goals (refine ⟨ret_int ?_, rfl⟩; unfold hexv; repeat' split)
  all_goals omega

end Go.Proofs.YtadkmlcnmkdfiaaGreatDoor
