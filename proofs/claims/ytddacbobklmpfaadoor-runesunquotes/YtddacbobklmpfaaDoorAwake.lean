/- The chapter's examples, which every statement of the layer asks for besides: they hold. -/
import Derived.Test.YtddacbobklmpfaaDoorUnq3
namespace Go.Proofs.YtddacbobklmpfaaDoor
open Go.RowKit

theorem ex_quote : quoteL [97, 10, 34, 1] = [34, 97, 92, 110, 92, 34, 92, 117, 123, 49, 125, 34] := by decide +kernel
theorem ex_unquote : unquoteL [39, 97, 92, 117, 123, 101, 52, 125, 39, 120] = some ([97, 195, 164], 9) := by decide +kernel
theorem ex_count : (scan [97, 195, 164, 226, 130, 172]).length = 3 := by decide +kernel
theorem ex_valid : validL [97] = true := by decide +kernel
theorem ex_letter : letterB 97 = true := by decide +kernel
theorem ex_digit : digitB 53 = true := by decide +kernel

theorem c_unquote (w : World) : Calls Tryd.prog 21 #[.string ⟨#[39, 97, 92, 117, 123, 101, 52, 125, 39, 120]⟩] w fun e w' => e = .returned (.tuple #[.string ⟨#[97, 195, 164]⟩, .int .i64 9, .int .i64 0]) ∧ Below w.heap.size w w' := by
  refine (unquote_any ⟨#[39, 97, 92, 117, 123, 101, 52, 125, 39, 120]⟩ w (by decide)).mono ?_
  rintro e w' ⟨rfl, hb⟩
  refine ⟨?_, hb⟩
  have h : unquoteL (ByteArray.mk #[39, 97, 92, 117, 123, 101, 52, 125, 39, 120]).data.toList = some ([97, 195, 164], 9) := ex_unquote
  rw [h]
  rfl
theorem c_quote (w : World) (ht : tabCell w) : Calls Tryd.prog 19 #[.string ⟨#[97, 10, 34, 1]⟩] w fun e w' => e = .returned (.string ⟨#[34, 97, 92, 110, 92, 34, 92, 117, 123, 49, 125, 34]⟩) ∧ Below w.heap.size w w' := by
  refine (quote_any ⟨#[97, 10, 34, 1]⟩ w (by decide) ht).mono ?_
  rintro e w' ⟨rfl, hb⟩
  refine ⟨?_, hb⟩
  have h : quoteL (ByteArray.mk #[97, 10, 34, 1]).data.toList = _ := ex_quote
  rw [h]
theorem c_count (w : World) : Calls Tryd.prog 12 #[.string ⟨#[97, 195, 164, 226, 130, 172]⟩] w fun e w' => e = .returned (.int .i64 3) ∧ Below w.heap.size w w' := by
  refine (count_any ⟨#[97, 195, 164, 226, 130, 172]⟩ w (by decide)).mono ?_
  rintro e w' ⟨rfl, hb⟩
  refine ⟨?_, hb⟩
  have h : (scan (ByteArray.mk #[97, 195, 164, 226, 130, 172]).data.toList).length = 3 := ex_count
  rw [h]
  rfl
theorem c_valid (w : World) : Calls Tryd.prog 11 #[.string ⟨#[97]⟩] w fun e w' => e = .returned (.bool true) ∧ Below w.heap.size w w' := by
  refine (valid_any ⟨#[97]⟩ w).mono ?_
  rintro e w' ⟨rfl, hb⟩
  refine ⟨?_, hb⟩
  have h : validL (ByteArray.mk #[97]).data.toList = true := ex_valid
  rw [h]
theorem c_letter (w : World) : Calls Tryd.prog 16 #[.int .i32 97] w fun e w' => e = .returned (.bool true) ∧ w' = w := by
  have h := letter_any 97 w
  rw [ex_letter] at h
  exact h
theorem c_digit (w : World) : Calls Tryd.prog 18 #[.int .i32 53] w fun e w' => e = .returned (.bool true) ∧ w' = w := by
  have h := digit_any 53 w
  rw [ex_digit] at h
  exact h

set_option maxHeartbeats 1000000 in
theorem awake_any (w : World) (ht : tabCell w) : Calls Tryd.prog 13 #[] w fun e w' => e = .returned (.bool true) ∧ Below w.heap.size w w' := by
  have hz := ht.lt
  go_enter Tryd.func13, Tryd.ntmps13
  go_wp2_with (go_at_call 21; refine (c_unquote _).mono ?_)
  rintro e w1 ⟨rfl, b1⟩
  go_wp2_with (go_at_call 12; refine (c_count _).mono ?_)
  rintro e w2 ⟨rfl, b2⟩
  have ht2 := (ht.below b1 hz).below (b2.mono b1.size) hz
  go_wp2_with (go_at_call 19; refine (c_quote _ ht2).mono ?_)
  rintro e w3 ⟨rfl, b3⟩
  go_wp2_with (first | (go_at_call 16; refine (c_letter _).mono ?_; rintro e w' ⟨rfl, rfl⟩) | (go_at_call 18; refine (c_digit _).mono ?_; rintro e w' ⟨rfl, rfl⟩) | (go_at_call 11; refine (c_valid _).mono ?_))
  rintro e w4 ⟨rfl, b4⟩
  go_wp2
  go_ret
  have s1 := b1.size
  have s2 := b2.size
  have s3 := b3.size
  exact ⟨rfl, b1.trans ((b2.mono (by omega)).trans ((b3.mono (by omega)).trans (b4.mono (by omega))))⟩
end Go.Proofs.YtddacbobklmpfaaDoor
