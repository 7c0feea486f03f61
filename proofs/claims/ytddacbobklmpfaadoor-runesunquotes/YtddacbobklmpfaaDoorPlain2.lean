/- Plain mathematics of texts in quotes: what stands for each rune of a text. -/
import Derived.Test.YtddacbobklmpfaaDoorPlain
import Derived.Lib.RuneBytes
namespace Go.Proofs.YtddacbobklmpfaaDoor

theorem take_getD (l : List UInt8) : ∀ w, w ≤ l.length → l.take w = (List.range w).map fun k => l.getD k 0 := by
  intro w
  induction w with
  | zero => intro _; simp
  | succ w ih =>
    intro h
    rw [List.take_succ_eq_append_getElem (by omega), ih (by omega), List.range_succ, List.map_append]
    simp [List.getD_eq_getElem?_getD, List.getElem?_eq_getElem (show w < l.length by omega)]

theorem u8_of (x : UInt8) (n : Int) (h : n = x.toNat) : n.toNat.toUInt8 = x := by
  apply UInt8.toNat_inj.1
  have := x.toNat_lt
  rw [h]
  simp

/-- A rune's bytes are those with which the text begins. -/
theorem enc_dec (l : List UInt8) (h : l ≠ []) (hs : strayL l = false) : Lib.encodeRune ((decL l).1 : Int) = l.take (decL l).2 := by
  have hle := decL_le l h
  rw [take_getD l _ hle]
  have a0 := atL_lt l 0
  have a1 := atL_lt l 1
  have a2 := atL_lt l 2
  have a3 := atL_lt l 3
  have key : Lib.encodeRuneZ ((decL l).1 : Int) = (List.range (decL l).2).map fun k => ((atL l k : Nat) : Int) := by
    clear hle
    revert hs
    unfold strayL
    unfold decL contL
    split
    · intro _
      rw [Lib.encodeRuneZ_one (by omega) (by omega)]
      rfl
    · split
      · rename_i h1 h2
        simp only [Bool.and_eq_true, beq_iff_eq, decide_eq_true_eq] at h2
        split
        · intro _
          rw [Lib.encodeRuneZ_two (by omega) (by omega)]
          simp [List.range_succ]
          omega
        · simp
      · split
        · rename_i h1 h2 h3
          simp only [Bool.and_eq_true, beq_iff_eq, decide_eq_true_eq] at h3
          split
          · rename_i h4
            simp only [Bool.and_eq_true, decide_eq_true_eq, Utf8.valid, Bool.or_eq_true] at h4
            intro _
            rw [Lib.encodeRuneZ_three (by omega)]
            simp [List.range_succ]
            omega
          · simp
        · split
          · rename_i h1 h2 h3 h4
            simp only [Bool.and_eq_true, beq_iff_eq, decide_eq_true_eq] at h4
            split
            · rename_i h5
              simp only [Bool.and_eq_true, decide_eq_true_eq, Utf8.valid, Bool.or_eq_true] at h5
              intro _
              rw [Lib.encodeRuneZ_four (by omega) (by omega)]
              simp [List.range_succ]
              omega
            · simp
          · simp
  rw [Lib.encodeRune, key, List.map_map]
  apply List.map_congr_left
  intro k _
  exact u8_of _ _ rfl

def hexc (u : Nat) : UInt8 := if u < 10 then UInt8.ofNat (48 + u) else UInt8.ofNat (87 + u)
/-- A number below 256 in hexadecimal digits. -/
def hexL (u : Nat) : List UInt8 := if u < 16 then [hexc u] else [hexc (u / 16), hexc (u % 16)]
theorem hexL_one (u : Nat) (h : u < 16) : hexL u = [hexc u] := by rw [hexL, if_pos h]
theorem hexL_two (u : Nat) (h : 16 ≤ u) : hexL u = [hexc (u / 16), hexc (u % 16)] := by rw [hexL, if_neg (by omega)]
theorem hexL_length (u : Nat) : (hexL u).length ≤ 2 := by unfold hexL; split <;> simp

/-- What stands for a rune, or for a byte that belongs to none, in a text in quotes. -/
def quoteP (x : Nat × List UInt8) : List UInt8 :=
  if strayP x then [92, 117, 123] ++ hexL (atL x.2 0) ++ [125]
  else if x.1 = 34 ∨ x.1 = 92 then 92 :: x.2
  else if x.1 = 10 then [92, 110]
  else if x.1 = 9 then [92, 116]
  else if x.1 < 32 ∨ x.1 = 127 then [92, 117, 123] ++ hexL x.1 ++ [125]
  else x.2
/-- A text in quotes. -/
def quoteL (l : List UInt8) : List UInt8 := 34 :: (scan l).flatMap quoteP ++ [34]

theorem quoteP_length (l : List UInt8) (h : l ≠ []) : (quoteP ((decL l).1, l.take (decL l).2)).length ≤ 6 * (decL l).2 := by
  have hle := decL_le l h
  have hw := decL_width l
  have hh := hexL_length
  have h1 := hh (atL (l.take (decL l).2) 0)
  have h2 := hh (decL l).1
  unfold quoteP
  repeat' split
  all_goals simp
  all_goals omega
end Go.Proofs.YtddacbobklmpfaaDoor
