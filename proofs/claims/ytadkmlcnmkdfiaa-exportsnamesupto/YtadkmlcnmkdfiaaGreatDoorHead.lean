/- The contract of the document's function that reads the rune with which a text begins. -/
import Derived.Test.YtadkmlcnmkdfiaaGreatDoorRunes1
import Derived.Handy
namespace Go.Proofs.YtadkmlcnmkdfiaaGreatDoor
open Go.RowKit

/-- How many bytes the rune has with which a text begins, and which it is; 1 and -1: a byte that belongs to none. -/
def headL (l : List UInt8) : Int × Int := if strayL l then (1, -1) else (((decL l).2 : Int), ((decL l).1 : Int))

def headZ (n b0 b1 b2 b3 : Int) : Int × Int :=
  if b0 < 128 then (1, b0)
  else if b0 < 192 then (1, -1)
  else if b0 < 224 then
    if 2 ≤ n ∧ 128 ≤ b1 ∧ b1 < 192 ∧ 128 ≤ (b0 - 192) * 64 + b1 - 128 then (2, (b0 - 192) * 64 + b1 - 128) else (1, -1)
  else if b0 < 240 then
    if 3 ≤ n ∧ 128 ≤ b1 ∧ b1 < 192 ∧ 128 ≤ b2 ∧ b2 < 192 ∧ 2048 ≤ ((b0 - 224) * 64 + b1 - 128) * 64 + b2 - 128 ∧ ¬ (55296 ≤ ((b0 - 224) * 64 + b1 - 128) * 64 + b2 - 128 ∧ ((b0 - 224) * 64 + b1 - 128) * 64 + b2 - 128 < 57344) then (3, ((b0 - 224) * 64 + b1 - 128) * 64 + b2 - 128) else (1, -1)
  else if b0 < 248 then
    if 4 ≤ n ∧ 128 ≤ b1 ∧ b1 < 192 ∧ 128 ≤ b2 ∧ b2 < 192 ∧ 128 ≤ b3 ∧ b3 < 192 ∧ 65536 ≤ (((b0 - 240) * 64 + b1 - 128) * 64 + b2 - 128) * 64 + b3 - 128 ∧ (((b0 - 240) * 64 + b1 - 128) * 64 + b2 - 128) * 64 + b3 - 128 ≤ 1114111 then (4, (((b0 - 240) * 64 + b1 - 128) * 64 + b2 - 128) * 64 + b3 - 128) else (1, -1)
  else (1, -1)

theorem headL_of {l : List UInt8} {r n : Nat} (h : decL l = (r, n)) (hne : ¬ (r = 65533 ∧ n = 1)) : headL l = ((n : Int), (r : Int)) := by
  rw [headL, strayL, h, if_neg (by simp; omega)]
theorem headL_bad {l : List UInt8} (h : decL l = (65533, 1)) : headL l = (1, -1) := by
  rw [headL, strayL, h]; rfl
theorem pair_eq {a b c d : Int} (h1 : a = c) (h2 : b = d) : (a, b) = (c, d) := by rw [h1, h2]

theorem headL_eq (l : List UInt8) : headL l = headZ l.length (atL l 0) (atL l 1) (atL l 2) (atL l 3) := by
  have a0 := atL_lt l 0
  have a1 := atL_lt l 1
  have a2 := atL_lt l 2
  have a3 := atL_lt l 3
  obtain ⟨d, hd⟩ : ∃ d, decL l = d := ⟨_, rfl⟩
  have hd' := hd
  unfold decL contL Utf8.valid at hd
  generalize atL l 0 = b0 at *
  generalize atL l 1 = b1 at *
  generalize atL l 2 = b2 at *
  generalize atL l 3 = b3 at *
  generalize l.length = n at *
  unfold headZ
  by_cases h1 : b0 < 128
  · rw [if_pos h1] at hd
    rw [if_pos (by omega), headL_of (hd'.trans hd.symm) (by omega)]
    rfl
  rw [if_neg h1] at hd
  rw [if_neg (by omega)]
  by_cases h2 : b0 < 192
  · rw [if_neg (by simp; omega), if_neg (by simp; omega), if_neg (by simp; omega)] at hd
    rw [if_pos (by omega), headL_bad (hd'.trans hd.symm)]
  rw [if_neg (by omega)]
  by_cases h3 : b0 < 224
  · rw [if_pos (by omega)]
    by_cases hq : (b0 / 32 == 6 && (decide (1 < n) && b1 / 64 == 2)) = true
    · rw [if_pos hq] at hd
      simp at hq
      by_cases hv : 128 ≤ b0 % 32 * 64 + b1 % 64
      · rw [if_pos (by omega)] at hd
        rw [if_pos (by omega), headL_of (hd'.trans hd.symm) (by omega)]
        exact pair_eq rfl (by omega)
      · rw [if_neg (by omega)] at hd
        rw [if_neg (by omega), headL_bad (hd'.trans hd.symm)]
    · rw [if_neg hq, if_neg (by simp; omega), if_neg (by simp; omega)] at hd
      simp at hq
      rw [if_neg (by omega), headL_bad (hd'.trans hd.symm)]
  rw [if_neg (by omega)]
  rw [if_neg (show ¬ (b0 / 32 == 6 && (decide (1 < n) && b1 / 64 == 2)) = true by simp; omega)] at hd
  by_cases h4 : b0 < 240
  · rw [if_pos (by omega)]
    by_cases hq : (b0 / 16 == 14 && (decide (1 < n) && b1 / 64 == 2) && (decide (2 < n) && b2 / 64 == 2)) = true
    · rw [if_pos hq] at hd
      simp at hq
      by_cases hv : (2048 ≤ b0 % 16 * 4096 + b1 % 64 * 64 + b2 % 64 ∧ ¬ (55296 ≤ b0 % 16 * 4096 + b1 % 64 * 64 + b2 % 64 ∧ b0 % 16 * 4096 + b1 % 64 * 64 + b2 % 64 < 57344))
      · rw [if_pos (by simp; omega)] at hd
        rw [if_pos (by omega), headL_of (hd'.trans hd.symm) (by omega)]
        exact pair_eq rfl (by omega)
      · rw [if_neg (by simp; omega)] at hd
        rw [if_neg (by omega), headL_bad (hd'.trans hd.symm)]
    · rw [if_neg hq, if_neg (by simp; omega)] at hd
      simp at hq
      rw [if_neg (by omega), headL_bad (hd'.trans hd.symm)]
  rw [if_neg (by omega)]
  rw [if_neg (show ¬ (b0 / 16 == 14 && (decide (1 < n) && b1 / 64 == 2) && (decide (2 < n) && b2 / 64 == 2)) = true by simp; omega)] at hd
  by_cases h5 : b0 < 248
  · rw [if_pos (by omega)]
    by_cases hq : (b0 / 8 == 30 && (decide (1 < n) && b1 / 64 == 2) && (decide (2 < n) && b2 / 64 == 2) && (decide (3 < n) && b3 / 64 == 2)) = true
    · rw [if_pos hq] at hd
      simp at hq
      by_cases hv : (65536 ≤ b0 % 8 * 262144 + b1 % 64 * 4096 + b2 % 64 * 64 + b3 % 64 ∧ b0 % 8 * 262144 + b1 % 64 * 4096 + b2 % 64 * 64 + b3 % 64 ≤ 1114111)
      · rw [if_pos (by simp; omega)] at hd
        rw [if_pos (by omega), headL_of (hd'.trans hd.symm) (by omega)]
        exact pair_eq rfl (by omega)
      · rw [if_neg (by simp; omega)] at hd
        rw [if_neg (by omega), headL_bad (hd'.trans hd.symm)]
    · rw [if_neg hq] at hd
      simp at hq
      rw [if_neg (by omega), headL_bad (hd'.trans hd.symm)]
  rw [if_neg (by simp; omega)] at hd
  rw [if_neg (by omega), headL_bad (hd'.trans hd.symm)]

theorem ret_ii {a b c d : Int} (h : (a, b) = (c, d)) : Ending.returned (.tuple #[.int .i64 a, .int .i64 b]) = .returned (.tuple #[.int .i64 c, .int .i64 d]) := by
  cases h; rfl

theorem byte_at (s : ByteArray) (k : Nat) (h : k < s.size) : (s[k]'h).toNat = atL s.data.toList k := by
  rw [← get_at s k h, get_drop]
  unfold atL
  simp

set_option maxHeartbeats 4000000 in
set_option maxRecDepth 100000 in
theorem head_any (s : ByteArray) (w : World) (h0 : 0 < s.size) (hs : s.size ≤ maxLen) :
    Calls Tryz.prog 141 #[.string s] w fun e w' => e = .returned (.tuple #[.int .i64 (headL s.data.toList).1, .int .i64 (headL s.data.toList).2]) ∧ w' = w := by
  unfold maxLen at hs
  have hz := headL_eq s.data.toList
  rw [← Lib.size_eq] at hz
  have l0 := atL_lt s.data.toList 0
  have l1 := atL_lt s.data.toList 1
  have l2 := atL_lt s.data.toList 2
  have l3 := atL_lt s.data.toList 3
  have e0 := byte_at s 0
  have e1 := byte_at s 1
  have e2 := byte_at s 2
  have e3 := byte_at s 3
  generalize atL s.data.toList 0 = b0 at *
  generalize atL s.data.toList 1 = b1 at *
  generalize atL s.data.toList 2 = b2 at *
  generalize atL s.data.toList 3 = b3 at *
  generalize headL s.data.toList = r at *
  obtain ⟨r1, r2⟩ := r
  have HZ : Hid ((r1, r2) = headZ s.size b0 b1 b2 b3) := hz
  clear hz
  by_cases c1 : b0 < 192
  · clear e1 e2 e3 l1 l2 l3
    go_enter Tryz.func141, Tryz.ntmps141
    go_wp2
    all_goals go_ret2
    all_goals (refine ⟨ret_ii ?_, rfl⟩; rw [HZ.out, headZ]; repeat' (first | rw [if_pos (by omega)] | rw [if_neg (by omega)]))
  by_cases c2 : b0 < 224
  · clear e2 e3 l2 l3
    by_cases hn : s.size < 2
    · clear e1
      go_enter Tryz.func141, Tryz.ntmps141
      go_wp2
      all_goals go_ret2
      all_goals (refine ⟨ret_ii ?_, rfl⟩; rw [HZ.out, headZ]; repeat' (first | rw [if_pos (by omega)] | rw [if_neg (by omega)]))
    · go_enter Tryz.func141, Tryz.ntmps141
      go_wp2
      go_rounds 2
      all_goals go_ret2
      all_goals (refine ⟨ret_ii ?_, rfl⟩; rw [HZ.out, headZ]; repeat' (first | rw [if_pos (by omega)] | rw [if_neg (by omega)]))
  by_cases c3 : b0 < 240
  · clear e3 l3
    by_cases hn : s.size < 3
    · clear e1 e2
      go_enter Tryz.func141, Tryz.ntmps141
      go_wp2
      all_goals go_ret2
      all_goals (refine ⟨ret_ii ?_, rfl⟩; rw [HZ.out, headZ]; repeat' (first | rw [if_pos (by omega)] | rw [if_neg (by omega)]))
    · go_enter Tryz.func141, Tryz.ntmps141
      go_wp2
      go_rounds 3
      all_goals go_ret2
      all_goals (refine ⟨ret_ii ?_, rfl⟩; rw [HZ.out, headZ]; repeat' (first | rw [if_pos (by omega)] | rw [if_neg (by omega)]))
  by_cases c4 : b0 < 248
  · by_cases hn : s.size < 4
    · clear e1 e2 e3
      go_enter Tryz.func141, Tryz.ntmps141
      go_wp2
      all_goals go_ret2
      all_goals (refine ⟨ret_ii ?_, rfl⟩; rw [HZ.out, headZ]; repeat' (first | rw [if_pos (by omega)] | rw [if_neg (by omega)]))
    · go_enter Tryz.func141, Tryz.ntmps141
      go_wp2
      go_rounds 4
      all_goals go_ret2
      all_goals (refine ⟨ret_ii ?_, rfl⟩; rw [HZ.out, headZ]; repeat' (first | rw [if_pos (by omega)] | rw [if_neg (by omega)]))
  · clear e1 e2 e3 l1 l2 l3
    go_enter Tryz.func141, Tryz.ntmps141
    go_wp2
    all_goals go_ret2
    all_goals (refine ⟨ret_ii ?_, rfl⟩; rw [HZ.out, headZ]; repeat' (first | rw [if_pos (by omega)] | rw [if_neg (by omega)]))
end Go.Proofs.YtadkmlcnmkdfiaaGreatDoor
