/- Own text. The signs of a part, by the program and by the document. -/
import Derived.Test.YtlogohcfahmilaaP0
import Derived.WalkKit
import Derived.WalkSmall
import Derived.Lib.Strings
import Derived.WalkLawsBesides
namespace Go.Proofs.Ytlogohcfahmilaa
open Go.RowKit
set_option linter.unusedVariables false

theorem ret_bool {a b : Bool} (h : a = b) : Ending.returned (.bool a) = .returned (.bool b) := by rw [h]
def signI (r : Int) : Bool := decide ((97 ≤ r ∧ r ≤ 122) ∨ (65 ≤ r ∧ r ≤ 90) ∨ (48 ≤ r ∧ r ≤ 57) ∨ r = 95 ∨ r = 45 ∨ r = 46)
theorem signI_eq (c : UInt8) : signI (c.toNat : Int) = signB c := by
  have h : ∀ k : Fin 256, signI (((UInt8.ofNat k.val).toNat : Nat) : Int) = signB (UInt8.ofNat k.val) := by decide +kernel
  have := h ⟨c.toNat, c.toNat_lt⟩
  simpa using this

theorem sign_any (r : Int) (w : World) : Calls Try.prog 29 #[.int .u8 r] w fun e w' => e = .returned (.bool (signI r)) ∧ w' = w := by
  go_enter Try.func29, Try.ntmps29
  go_wp2
  all_goals go_ret
  all_goals (refine ⟨ret_bool ?_, rfl⟩; rw [Bool.eq_iff_iff]; simp [signI] <;> omega)
theorem refSign_any (r : Int) (w : World) : Calls Try.prog 19 #[.int .u8 r] w fun e w' => e = .returned (.bool (signI r)) ∧ w' = w := by
  go_enter Try.func19, Try.ntmps19
  go_wp2
  all_goals go_ret
  all_goals (refine ⟨ret_bool ?_, rfl⟩; rw [Bool.eq_iff_iff]; simp [signI] <;> omega)

/-- a byte of a text, as the walk shows it. -/
theorem byte_at (s : ByteArray) (k : Nat) (h : k < s.size) : s.data.toList[k]? = some s[k] := by
  rw [Array.getElem?_toList]
  exact Array.getElem?_eq_getElem h
theorem all_take_succ {p : UInt8 → Bool} {l : Bs} {k : Nat} {c : UInt8} (h : l[k]? = some c) (ha : (l.take k).all p = true) (hc : p c = true) : (l.take (k + 1)).all p = true := by
  rw [List.take_add_one, h, List.all_append, ha]
  simpa using hc

theorem signs_any (s : ByteArray) (w : World) (hs : s.size < 4611686018427387904) : Calls Try.prog 25 #[.string s] w fun e w' => e = .returned (.bool (s.data.toList.all signB)) ∧ w' = w := by
  go_enter Try.func25, Try.ntmps25
  go_wp2
  go_loopw [6] (fun vi wr => ∃ k : Nat, k ≤ s.size ∧ vi = .int .i64 k ∧ wr = w ∧ Hid ((s.data.toList.take k).all signB = true)) (fun vi _ => s.size - (intOf vi).toNat)
  case atStart => exact ⟨0, Nat.zero_le _, rfl, rfl, (by simp [Hid])⟩
  case round =>
    obtain ⟨k, hk, rfl, rfl, hh⟩ := hrel
    go_wp2_with (go_at_call 29; refine (sign_any _ _).mono ?_; rintro e W ⟨rfl, rfl⟩)
    · have hk2 : k < s.size := by assumption
      have hb : (!signI (s[k].toNat : Int)) = true := by assumption
      go_ret
      have e := byte_at s k hk2
      refine ⟨ret_bool ?_, rfl⟩
      symm
      rw [List.all_eq_false]
      refine ⟨s[k], List.mem_of_getElem? e, ?_⟩
      rw [← signI_eq]
      simpa using hb
    · have hk2 : k < s.size := by assumption
      have hb : (!signI (s[k].toNat : Int)) = false := by assumption
      go_roundw
      case rel => exact ⟨k + 1, by omega, by simp, by simp, (all_take_succ (byte_at s k hk2) hh.out (by rw [← signI_eq]; simpa using hb))⟩
      case measure => simp [intOf]; omega
    · have hk2 : k = s.size := by omega
      subst hk2
      go_ret
      refine ⟨ret_bool ?_, rfl⟩
      have := hh.out
      rw [List.take_of_length_le (by rw [← Lib.size_eq]; omega)] at this
      exact this.symm

end Go.Proofs.Ytlogohcfahmilaa
