/- A rune cut out of a text is that rune by itself. -/
import Derived.Test.YtddacbobklmpfaaDoorPlain3
namespace Go.Proofs.YtddacbobklmpfaaDoor

theorem atL_take_lt (l : List UInt8) (n k : Nat) (h : k < n) : atL (l.take n) k = atL l k := by
  unfold atL
  rw [List.getD_eq_getElem?_getD, List.getD_eq_getElem?_getD, List.getElem?_take_of_lt h]
theorem contL_take (l : List UInt8) (n k : Nat) (h : k < n) (hn : n ≤ l.length) : contL (l.take n) k = contL l k := by
  unfold contL
  rw [atL_take_lt l n k h]
  congr 1
  rw [List.length_take, decide_eq_decide]
  omega
theorem contL_one (l : List UInt8) (k : Nat) (h : 1 ≤ k) : contL (l.take 1) k = false := by
  unfold contL
  rw [List.length_take]
  have : decide (k < min 1 l.length) = false := by simp; omega
  rw [this]; rfl

theorem decL_one_bad (l : List UInt8) (h : ¬ atL l 0 < 128) : decL (l.take 1) = (65533, 1) := by
  unfold decL
  rw [atL_take_lt l 1 0 (by omega), if_neg h, contL_one l 1 (by omega)]
  simp

theorem decL_take (l : List UInt8) (hne : l ≠ []) : decL (l.take (decL l).2) = decL l := by
  have hle := decL_le l hne
  obtain ⟨d, hd⟩ : ∃ d, decL l = d := ⟨_, rfl⟩
  rw [hd] at hle ⊢
  unfold decL at hd
  split at hd
  · rename_i h1
    subst hd
    show decL (l.take 1) = _
    rw [decL, atL_take_lt l 1 0 (by omega), if_pos h1]
  rename_i h1
  split at hd
  · rename_i h2
    split at hd
    · rename_i h3
      subst hd
      replace hle : 2 ≤ l.length := hle
      show decL (l.take 2) = _
      rw [decL, atL_take_lt l 2 0 (by omega), atL_take_lt l 2 1 (by omega), contL_take l 2 1 (by omega) hle, if_neg h1, if_pos h2, if_pos h3]
    · subst hd
      exact decL_one_bad l h1
  rename_i h2
  split at hd
  · rename_i h3
    split at hd
    · rename_i h4
      subst hd
      replace hle : 3 ≤ l.length := hle
      show decL (l.take 3) = _
      rw [decL, atL_take_lt l 3 0 (by omega), atL_take_lt l 3 1 (by omega), atL_take_lt l 3 2 (by omega), contL_take l 3 1 (by omega) hle, contL_take l 3 2 (by omega) hle, if_neg h1, if_neg h2, if_pos h3, if_pos h4]
    · subst hd
      exact decL_one_bad l h1
  rename_i h3
  split at hd
  · rename_i h4
    split at hd
    · rename_i h5
      subst hd
      replace hle : 4 ≤ l.length := hle
      show decL (l.take 4) = _
      rw [decL, atL_take_lt l 4 0 (by omega), atL_take_lt l 4 1 (by omega), atL_take_lt l 4 2 (by omega), atL_take_lt l 4 3 (by omega), contL_take l 4 1 (by omega) hle, contL_take l 4 2 (by omega) hle, contL_take l 4 3 (by omega) hle, if_neg h1, if_neg h2, if_neg h3, if_pos h4, if_pos h5]
    · subst hd
      exact decL_one_bad l h1
  · subst hd
    exact decL_one_bad l h1

theorem scan_dec (l : List UInt8) : ∀ x ∈ scan l, decL x.2 = (x.1, x.2.length) := by
  refine scan_induct (fun l => ∀ x ∈ scan l, decL x.2 = (x.1, x.2.length)) (fun x h => by cases h) ?_ l
  intro l hl ih x hx
  rw [scan_cons l hl] at hx
  rcases List.mem_cons.1 hx with rfl | hx
  · rw [decL_take l hl, List.length_take, Nat.min_eq_left (decL_le l hl)]
  · exact ih x hx
theorem scan_stray (l : List UInt8) (x : Nat × List UInt8) (hx : x ∈ scan l) : strayL x.2 = strayP x := by
  rw [strayL, scan_dec l x hx]; rfl
/-- A rune that is no byte alone is written by its own bytes. -/
theorem scan_enc (l : List UInt8) (x : Nat × List UInt8) (hx : x ∈ scan l) (hs : strayP x = false) : Lib.encodeRune (x.1 : Int) = x.2 := by
  have h := enc_dec x.2 (scan_pos l x hx) (by rw [scan_stray l x hx]; exact hs)
  rw [scan_dec l x hx] at h
  rw [h]
  exact List.take_of_length_le (Nat.le_refl _)
end Go.Proofs.YtddacbobklmpfaaDoor
