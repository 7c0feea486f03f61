/- Own text. Plain mathematics of texts as runes: a text of bytes cut into runes, and bytes that belong to none. Plain mathematics of texts in quotes: what stands for each rune of a text. Plain mathematics of the runes between two places of a text. A rune cut out of a text is that rune by itself. The contracts of the small functions of package runes and of the document's answer: letters and digits. The contracts of stray, Valid and Count of package runes, over a text cut into runes. The contract of byNumber of package runes: the number of a byte in hexadecimal digits. The contract of Quote of package runes: a text in quotes, of every text that is not too long. The reader of texts in quotes, rune by rune: its steps as plain mathematics, and how it lies in memory. The contracts of the reader's steps: what each rune does to it. The contract of Unquote of package runes: what the text in quotes says with which a text begins, or that there is none. The contract of the document's function that reads the rune with which a text begins. The contract of the document's Encode: a rune's bytes. What is said by a text in quotes: reading back what was quoted. A text in quotes says the text, whatever stands behind; no byte of it is below 32. The contract of the document's function that cuts a text into runes. What stands behind a backslash, read at once and rune by rune: the same. The contracts of the document's number and escape. The contract of the document's escape. The contract of Slice of package runes, where something lies between the places. The contract of Slice of package runes for all places. The contract of the document's Unquote: it says what the reader, rune by rune, says. The contract of the document's Slice. The contracts of the document's hex and Quote. -/
import Derived.Lib.RuneCount
import Derived.Lib.Strings
import Derived.Lib.RuneBytes
import Derived.Test.YtmfgcaffdkakhaaGreatProg
import Derived.WalkKit
import Derived.Test.YtmfgcaffdkakhaaGreatShelf
import Derived.Laws.RangeString
import Derived.Laws.RangeAny
import Derived.LoopTactic
import Derived.Handy
import Derived.Lib.OthersKept
import Derived.BigCall
import Derived.Lib.Small
import Derived.OwnWalk
import Derived.Maps.AppendAt
import Derived.Deep.QuietTactic
import Derived.BigQuiet
import Derived.WalkSmall
namespace Go.Proofs.YtmfgcaffdkakhaaGreat

def atL (l : List UInt8) (k : Nat) : Nat := (l.getD k 0).toNat
def contL (l : List UInt8) (k : Nat) : Bool := decide (k < l.length) && (atL l k / 64 == 2)
/-- The rune with which a text begins, and how many bytes it has; 65533 and 1: a byte that belongs to none. -/
def decL (l : List UInt8) : Nat × Nat :=
  if atL l 0 < 128 then (atL l 0, 1)
  else if atL l 0 / 32 == 6 && contL l 1 then
    if atL l 0 % 32 * 64 + atL l 1 % 64 ≥ 128 then (atL l 0 % 32 * 64 + atL l 1 % 64, 2) else (65533, 1)
  else if atL l 0 / 16 == 14 && contL l 1 && contL l 2 then
    if atL l 0 % 16 * 4096 + atL l 1 % 64 * 64 + atL l 2 % 64 ≥ 2048 && Utf8.valid ((atL l 0 % 16 * 4096 + atL l 1 % 64 * 64 + atL l 2 % 64 : Nat) : Int) then (atL l 0 % 16 * 4096 + atL l 1 % 64 * 64 + atL l 2 % 64, 3) else (65533, 1)
  else if atL l 0 / 8 == 30 && contL l 1 && contL l 2 && contL l 3 then
    if atL l 0 % 8 * 262144 + atL l 1 % 64 * 4096 + atL l 2 % 64 * 64 + atL l 3 % 64 ≥ 65536 && Utf8.valid ((atL l 0 % 8 * 262144 + atL l 1 % 64 * 4096 + atL l 2 % 64 * 64 + atL l 3 % 64 : Nat) : Int) then (atL l 0 % 8 * 262144 + atL l 1 % 64 * 4096 + atL l 2 % 64 * 64 + atL l 3 % 64, 4) else (65533, 1)
  else (65533, 1)

theorem get_drop (s : ByteArray) (i k : Nat) : (s.get! (i + k)).toNat = atL (s.data.toList.drop i) k := by
  unfold atL
  congr 1
  rw [List.getD_eq_getElem?_getD, List.getElem?_drop, Array.getElem?_toList]
  show s.data[i + k]! = _
  rw [getElem!_def]
  cases s.data[i + k]? <;> rfl

theorem atL_lt (l : List UInt8) (k : Nat) : atL l k < 256 := (l.getD k 0).toNat_lt

theorem decL_width (l : List UInt8) : 1 ≤ (decL l).2 ∧ (decL l).2 ≤ 4 := by
  unfold decL
  repeat' split
  all_goals simp

theorem decL_le (l : List UInt8) (h : l ≠ []) : (decL l).2 ≤ l.length := by
  have h0 : 1 ≤ l.length := by cases l <;> simp_all
  unfold decL contL
  repeat' split
  all_goals simp_all
  all_goals omega

/-- A text cut into runes, each with its bytes. -/
def scanF : Nat → List UInt8 → List (Nat × List UInt8)
  | 0, _ => []
  | f + 1, l => if l = [] then [] else ((decL l).1, l.take (decL l).2) :: scanF f (l.drop (decL l).2)
def scan (l : List UInt8) : List (Nat × List UInt8) := scanF l.length l

theorem scanF_more (l : List UInt8) : ∀ f g, l.length ≤ f → l.length ≤ g → scanF f l = scanF g l := by
  intro f
  induction f generalizing l with
  | zero => intro g hf _; cases l <;> cases g <;> simp_all [scanF]
  | succ f ih =>
    intro g hf hg
    by_cases hl : l = []
    · subst hl; cases g <;> simp [scanF]
    · have hw := decL_width l
      have : 1 ≤ l.length := by cases l <;> simp_all
      cases g with
      | zero => omega
      | succ g =>
        simp only [scanF, if_neg hl]
        rw [ih (l.drop (decL l).2) g (by simp; omega) (by simp; omega)]

theorem scan_nil : scan [] = [] := rfl
theorem scan_cons (l : List UInt8) (h : l ≠ []) : scan l = ((decL l).1, l.take (decL l).2) :: scan (l.drop (decL l).2) := by
  have hw := decL_width l
  have hl : 1 ≤ l.length := by cases l <;> simp_all
  unfold scan
  obtain ⟨n, hn⟩ : ∃ n, l.length = n + 1 := ⟨l.length - 1, by omega⟩
  rw [hn]
  simp only [scanF, if_neg h]
  rw [scanF_more _ n _ (by simp; omega) (Nat.le_refl _)]

/-- The byte at hand belongs to no rune. -/
def strayL (l : List UInt8) : Bool := (decL l).1 == 65533 && (decL l).2 == 1

def strayP (x : Nat × List UInt8) : Bool := x.1 == 65533 && x.2.length == 1
theorem strayL_eq (l : List UInt8) (h : l ≠ []) : strayL l = strayP ((decL l).1, l.take (decL l).2) := by
  have := decL_le l h
  simp [strayL, strayP, Nat.min_eq_left this]
def validL (l : List UInt8) : Bool := (scan l).all fun x => !strayP x
theorem validL_nil : validL [] = true := rfl
theorem validL_stray (l : List UInt8) (h : l ≠ []) (hs : strayL l = true) : validL l = false := by
  rw [validL, scan_cons l h, List.all_cons, ← strayL_eq l h, hs]; rfl
theorem validL_rune (l : List UInt8) (h : l ≠ []) (hs : strayL l = false) : validL l = validL (l.drop (decL l).2) := by
  rw [validL, scan_cons l h, List.all_cons, ← strayL_eq l h, hs]; rfl

end Go.Proofs.YtmfgcaffdkakhaaGreat
namespace Go.Proofs.YtmfgcaffdkakhaaGreat

theorem take_getD (l : List UInt8) : ∀ w, w ≤ l.length → l.take w = (List.range w).map fun k => l.getD k 0 := by
  intro w
  induction w with
  | zero => intro _; simp
  | succ w ih =>
    intro h
    rw [List.take_succ_eq_append_getElem (by omega), ih (by omega), List.range_succ, List.map_append]
    simp [List.getD_eq_getElem?_getD, List.getElem?_eq_getElem (show w < l.length by omega)]

theorem u8_of (x : UInt8) (n : Int) (h : n = x.toNat) : n.toNat.toUInt8 = x := by
  apply UInt8.toNat_inj.1
  have := x.toNat_lt
  rw [h]
  simp

/-- A rune's bytes are those with which the text begins. -/
theorem enc_dec (l : List UInt8) (h : l ≠ []) (hs : strayL l = false) : Lib.encodeRune ((decL l).1 : Int) = l.take (decL l).2 := by
  have hle := decL_le l h
  rw [take_getD l _ hle]
  have a0 := atL_lt l 0
  have a1 := atL_lt l 1
  have a2 := atL_lt l 2
  have a3 := atL_lt l 3
  have key : Lib.encodeRuneZ ((decL l).1 : Int) = (List.range (decL l).2).map fun k => ((atL l k : Nat) : Int) := by
    clear hle
    revert hs
    unfold strayL
    unfold decL contL
    split
    · intro _
      rw [Lib.encodeRuneZ_one (by omega) (by omega)]
      rfl
    · split
      · rename_i h1 h2
        simp only [Bool.and_eq_true, beq_iff_eq, decide_eq_true_eq] at h2
        split
        · intro _
          rw [Lib.encodeRuneZ_two (by omega) (by omega)]
          simp [List.range_succ]
          omega
        · simp
      · split
        · rename_i h1 h2 h3
          simp only [Bool.and_eq_true, beq_iff_eq, decide_eq_true_eq] at h3
          split
          · rename_i h4
            simp only [Bool.and_eq_true, decide_eq_true_eq, Utf8.valid, Bool.or_eq_true] at h4
            intro _
            rw [Lib.encodeRuneZ_three (by omega)]
            simp [List.range_succ]
            omega
          · simp
        · split
          · rename_i h1 h2 h3 h4
            simp only [Bool.and_eq_true, beq_iff_eq, decide_eq_true_eq] at h4
            split
            · rename_i h5
              simp only [Bool.and_eq_true, decide_eq_true_eq, Utf8.valid, Bool.or_eq_true] at h5
              intro _
              rw [Lib.encodeRuneZ_four (by omega) (by omega)]
              simp [List.range_succ]
              omega
            · simp
          · simp
  rw [Lib.encodeRune, key, List.map_map]
  apply List.map_congr_left
  intro k _
  exact u8_of _ _ rfl

def hexc (u : Nat) : UInt8 := if u < 10 then UInt8.ofNat (48 + u) else UInt8.ofNat (87 + u)
/-- A number below 256 in hexadecimal digits. -/
def hexL (u : Nat) : List UInt8 := if u < 16 then [hexc u] else [hexc (u / 16), hexc (u % 16)]
theorem hexL_one (u : Nat) (h : u < 16) : hexL u = [hexc u] := by rw [hexL, if_pos h]
theorem hexL_two (u : Nat) (h : 16 ≤ u) : hexL u = [hexc (u / 16), hexc (u % 16)] := by rw [hexL, if_neg (by omega)]
end Go.Proofs.YtmfgcaffdkakhaaGreat
namespace Go.Proofs.YtmfgcaffdkakhaaGreat

abbrev Rns := List (Nat × List UInt8)
def bytesOf (xs : Rns) : List UInt8 := xs.flatMap (·.2)
theorem bytesOf_cons (x : Nat × List UInt8) (ys : Rns) : bytesOf (x :: ys) = x.2 ++ bytesOf ys := by simp [bytesOf]

theorem scan_induct (P : List UInt8 → Prop) (h0 : P []) (h1 : ∀ l, l ≠ [] → P (l.drop (decL l).2) → P l) : ∀ l, P l := by
  intro l
  have : ∀ n, ∀ l : List UInt8, l.length ≤ n → P l := by
    intro n
    induction n with
    | zero => intro l hl; have : l = [] := List.eq_nil_of_length_eq_zero (by omega); subst this; exact h0
    | succ n ih =>
      intro l hl
      by_cases he : l = []
      · subst he; exact h0
      · have := (decL_width l).1
        exact h1 l he (ih _ (by rw [List.length_drop]; omega))
  exact this l.length l (Nat.le_refl _)

/-- All runes, one behind the other, are the text. -/
theorem scan_bytes (l : List UInt8) : bytesOf (scan l) = l := by
  refine scan_induct (fun l => bytesOf (scan l) = l) rfl ?_ l
  intro l hl ih
  rw [scan_cons l hl, bytesOf_cons, ih]
  exact List.take_append_drop _ _
/-- Each has a byte. -/
theorem scan_pos (l : List UInt8) : ∀ x ∈ scan l, x.2 ≠ [] := by
  refine scan_induct (fun l => ∀ x ∈ scan l, x.2 ≠ []) (fun x h => by cases h) ?_ l
  intro l hl ih x hx
  rw [scan_cons l hl] at hx
  rcases List.mem_cons.1 hx with rfl | hx
  · intro e
    have h1 := (decL_width l).1
    have h2 := decL_le l hl
    have := congrArg List.length e
    simp at this
    rcases this with h | h
    · omega
    · exact hl h
  · exact ih x hx
theorem scan_length (l : List UInt8) : (scan l).length ≤ l.length := by
  refine scan_induct (fun l => (scan l).length ≤ l.length) (Nat.le_refl _) ?_ l
  intro l hl ih
  have h1 := (decL_width l).1
  have h2 := decL_le l hl
  rw [scan_cons l hl, List.length_cons]
  rw [List.length_drop] at ih
  omega

/-- The runes from the place a up to the one ahead of b. -/
def part (xs : Rns) (a b : Nat) : List UInt8 := bytesOf ((xs.take b).drop a)
end Go.Proofs.YtmfgcaffdkakhaaGreat
namespace Go.Proofs.YtmfgcaffdkakhaaGreat

theorem atL_take_lt (l : List UInt8) (n k : Nat) (h : k < n) : atL (l.take n) k = atL l k := by
  unfold atL
  rw [List.getD_eq_getElem?_getD, List.getD_eq_getElem?_getD, List.getElem?_take_of_lt h]
theorem contL_take (l : List UInt8) (n k : Nat) (h : k < n) (hn : n ≤ l.length) : contL (l.take n) k = contL l k := by
  unfold contL
  rw [atL_take_lt l n k h]
  congr 1
  rw [List.length_take, decide_eq_decide]
  omega
theorem contL_one (l : List UInt8) (k : Nat) (h : 1 ≤ k) : contL (l.take 1) k = false := by
  unfold contL
  rw [List.length_take]
  have : decide (k < min 1 l.length) = false := by simp; omega
  rw [this]; rfl

theorem decL_one_bad (l : List UInt8) (h : ¬ atL l 0 < 128) : decL (l.take 1) = (65533, 1) := by
  unfold decL
  rw [atL_take_lt l 1 0 (by omega), if_neg h, contL_one l 1 (by omega)]
  simp

theorem decL_take (l : List UInt8) (hne : l ≠ []) : decL (l.take (decL l).2) = decL l := by
  have hle := decL_le l hne
  obtain ⟨d, hd⟩ : ∃ d, decL l = d := ⟨_, rfl⟩
  rw [hd] at hle ⊢
  unfold decL at hd
  split at hd
  · rename_i h1
    subst hd
    show decL (l.take 1) = _
    rw [decL, atL_take_lt l 1 0 (by omega), if_pos h1]
  rename_i h1
  split at hd
  · rename_i h2
    split at hd
    · rename_i h3
      subst hd
      replace hle : 2 ≤ l.length := hle
      show decL (l.take 2) = _
      rw [decL, atL_take_lt l 2 0 (by omega), atL_take_lt l 2 1 (by omega), contL_take l 2 1 (by omega) hle, if_neg h1, if_pos h2, if_pos h3]
    · subst hd
      exact decL_one_bad l h1
  rename_i h2
  split at hd
  · rename_i h3
    split at hd
    · rename_i h4
      subst hd
      replace hle : 3 ≤ l.length := hle
      show decL (l.take 3) = _
      rw [decL, atL_take_lt l 3 0 (by omega), atL_take_lt l 3 1 (by omega), atL_take_lt l 3 2 (by omega), contL_take l 3 1 (by omega) hle, contL_take l 3 2 (by omega) hle, if_neg h1, if_neg h2, if_pos h3, if_pos h4]
    · subst hd
      exact decL_one_bad l h1
  rename_i h3
  split at hd
  · rename_i h4
    split at hd
    · rename_i h5
      subst hd
      replace hle : 4 ≤ l.length := hle
      show decL (l.take 4) = _
      rw [decL, atL_take_lt l 4 0 (by omega), atL_take_lt l 4 1 (by omega), atL_take_lt l 4 2 (by omega), atL_take_lt l 4 3 (by omega), contL_take l 4 1 (by omega) hle, contL_take l 4 2 (by omega) hle, contL_take l 4 3 (by omega) hle, if_neg h1, if_neg h2, if_neg h3, if_pos h4, if_pos h5]
    · subst hd
      exact decL_one_bad l h1
  · subst hd
    exact decL_one_bad l h1

theorem scan_dec (l : List UInt8) : ∀ x ∈ scan l, decL x.2 = (x.1, x.2.length) := by
  refine scan_induct (fun l => ∀ x ∈ scan l, decL x.2 = (x.1, x.2.length)) (fun x h => by cases h) ?_ l
  intro l hl ih x hx
  rw [scan_cons l hl] at hx
  rcases List.mem_cons.1 hx with rfl | hx
  · rw [decL_take l hl, List.length_take, Nat.min_eq_left (decL_le l hl)]
  · exact ih x hx
theorem scan_stray (l : List UInt8) (x : Nat × List UInt8) (hx : x ∈ scan l) : strayL x.2 = strayP x := by
  rw [strayL, scan_dec l x hx]; rfl
end Go.Proofs.YtmfgcaffdkakhaaGreat
namespace Go.Proofs.YtmfgcaffdkakhaaGreat
open Go.RowKit

def letterB (r : Int) : Bool :=
  decide ((97 ≤ r ∧ r ≤ 122) ∨ (65 ≤ r ∧ r ≤ 90) ∨ (192 ≤ r ∧ r ≤ 591 ∧ r ≠ 215 ∧ r ≠ 247) ∨ (913 ≤ r ∧ r ≤ 969 ∧ r ≠ 930) ∨ (1040 ≤ r ∧ r ≤ 1103))
def digitB (r : Int) : Bool := decide (48 ≤ r ∧ r ≤ 57)
/-- The digit that a rune is in a hexadecimal number; -1: none. -/
def hexv (r : Int) : Int :=
  if 48 ≤ r ∧ r ≤ 57 then r - 48 else if 97 ≤ r ∧ r ≤ 102 then r - 87 else if 65 ≤ r ∧ r ≤ 70 then r - 55 else -1

theorem ret_bool {a b : Bool} (h : a = b) : Ending.returned (.bool a) = .returned (.bool b) := by rw [h]
theorem ret_int {k : IntKind} {a b : Int} (h : a = b) : Ending.returned (.int k a) = .returned (.int k b) := by rw [h]
theorem hexv_range (r : Int) : -1 ≤ hexv r ∧ hexv r ≤ 15 := by
  unfold hexv
  repeat' split
  all_goals omega


theorem refLetter_any (r : Int) (w : World) :
    Calls Tryz.prog 97 #[.int .i64 r] w fun e w' => e = .returned (.bool (letterB r)) ∧ w' = w := by
  go_enter Tryz.func97, Tryz.ntmps97
  go_wp2
  all_goals go_ret
  all_goals (refine ⟨ret_bool ?_, rfl⟩; rw [Bool.eq_iff_iff]; simp [letterB]; omega)


theorem refDigit_any (r : Int) (w : World) (h0 : 0 ≤ r) (h1 : r ≤ 255) :
    Calls Tryz.prog 104 #[.int .u8 r] w fun e w' => e = .returned (.int .i64 (hexv r)) ∧ w' = w := by
  go_enter Tryz.func104, Tryz.ntmps104
  go_wp2
  all_goals go_ret
  all_goals (refine ⟨ret_int ?_, rfl⟩; unfold hexv; repeat' split)
  all_goals omega

end Go.Proofs.YtmfgcaffdkakhaaGreat
namespace Go.Proofs.YtmfgcaffdkakhaaGreat
open Go.RowKit

theorem drop_extract (s : ByteArray) (i : Nat) : (s.extract i s.size).data.toList = s.data.toList.drop i := by
  rw [ByteArray.data_extract]
  simp
  exact List.take_of_length_le (by simp)


theorem drop_ne (s : ByteArray) (pos : Nat) (h : pos < s.size) : s.data.toList.drop pos ≠ [] := by
  intro e
  have := congrArg List.length e
  rw [List.length_drop, ← Lib.size_eq] at this
  simp at this
  omega
theorem drop_end (s : ByteArray) (pos : Nat) (h : ¬ pos < s.size) : s.data.toList.drop pos = [] := by
  apply List.drop_of_length_le
  rw [← Lib.size_eq]
  omega
end Go.Proofs.YtmfgcaffdkakhaaGreat
namespace Go.Proofs.YtmfgcaffdkakhaaGreat
open Go.RowKit
theorem ret_str {a b : ByteArray} (h : a = b) : Ending.returned (.string a) = .returned (.string b) := by rw [h]

end Go.Proofs.YtmfgcaffdkakhaaGreat
namespace Go.Proofs.YtmfgcaffdkakhaaGreat
open Go.RowKit

theorem grown_of_below {w w' : World} (h : Below w.heap.size w w') (row : Option Nat) : w.grownBy w' row := ⟨h.os, h.tape, h.output, h.size, fun k hk _ => h.block k hk⟩
end Go.Proofs.YtmfgcaffdkakhaaGreat
namespace Go.Proofs.YtmfgcaffdkakhaaGreat
open Go.RowKit

/-- Where the reader stands, which quote began, what has been said, and the number at hand with its digits. -/
structure Unq where
  st : Int
  q : Int
  num : Nat
  dig : Nat
  said : List UInt8
def Unq.say (u : Unq) (r : Int) : Unq := { u with said := u.said ++ Lib.encodeRune r, st := 1 }
def Unq.to (u : Unq) (x : Int) : Unq := { u with st := x }
def stepFirst (u : Unq) (r : Int) : Option Unq := if r = 34 ∨ r = 39 then some { u with st := 1, q := r } else none
def stepInside (u : Unq) (r : Int) : Option Unq :=
  if r = 10 ∨ r = 13 then none else if r = u.q then some (u.to 5) else if r = 92 then some (u.to 2) else some (u.say r)
def stepEscaped (u : Unq) (r : Int) : Option Unq :=
  if r = 110 then some (u.say 10) else if r = 116 then some (u.say 9) else if r = 34 ∨ r = 39 ∨ r = 92 then some (u.say r) else if r = 117 then some (u.to 3) else none
def stepNumbered (u : Unq) (r : Int) : Option Unq := if r = 123 then some { u with st := 4, num := 0, dig := 0 } else none
def stepCounting (u : Unq) (r : Int) : Option Unq :=
  if r = 125 then (if u.dig = 0 ∨ Lib.validRune (u.num : Int) = false then none else some (u.say u.num))
  else if hexv r < 0 ∨ u.dig = 6 then none else some { u with num := u.num * 16 + (hexv r).toNat, dig := u.dig + 1 }
def stepU (u : Unq) (r : Int) : Option Unq :=
  if u.st = 0 then stepFirst u r else if u.st = 1 then stepInside u r else if u.st = 2 then stepEscaped u r else if u.st = 3 then stepNumbered u r else if u.st = 4 then stepCounting u r else none

def Unq.ok (u : Unq) : Prop := 0 ≤ u.st ∧ u.st ≤ 5 ∧ u.dig ≤ 6 ∧ u.num < 16 ^ u.dig

theorem ownsRowF_slice {w : World} {B : Nat} {e : TypeId} {v : Value} {n : Nat} {xs : List Value} (h : w.ownsRowF B e 1 v n xs) : ∃ a c, v = .slice a n c := by
  rcases h.2 with ⟨rfl, rfl⟩ | ⟨g, cap, cur, fz, rfl, _⟩
  · exact ⟨_, _, rfl⟩
  · exact ⟨_, _, rfl⟩
end Go.Proofs.YtmfgcaffdkakhaaGreat
namespace Go.Proofs.YtmfgcaffdkakhaaGreat
open Go.RowKit

theorem pow_dig (n : Nat) (h : n ≤ 5) : 16 ^ n ≤ 1048576 := Nat.le_trans (Nat.pow_le_pow_right (by omega) h) (by decide)
theorem pow_dig6 (n : Nat) (h : n ≤ 6) : 16 ^ n ≤ 16777216 := Nat.le_trans (Nat.pow_le_pow_right (by omega) h) (by decide)

end Go.Proofs.YtmfgcaffdkakhaaGreat
namespace Go.Proofs.YtmfgcaffdkakhaaGreat
open Go.RowKit

/-- How many bytes have been read that nothing stands for yet. -/
def Unq.pend (u : Unq) : Nat := if u.st = 2 then 1 else if u.st = 3 then 2 else if u.st = 4 then 3 + u.dig else 0
theorem enc_small (r : Int) (h0 : 0 ≤ r) (h1 : r ≤ 127) : (Lib.encodeRune r).length = 1 := by rw [Lib.encodeRune, Lib.encodeRuneZ_one h0 h1]; rfl
theorem stepU_ok (u u' : Unq) (r : Int) (n : Nat) (h : stepU u r = some u') (hok : u.ok) (hn1 : 1 ≤ n) (hrn : (Lib.encodeRune r).length ≤ n) : u'.ok ∧ u'.said.length + u'.pend ≤ u.said.length + u.pend + n := by
  obtain ⟨h0, h5, hd, hn⟩ := hok
  have hsay : ∀ x : Int, (Lib.encodeRune x).length ≤ u.pend + n → (u.say x).ok ∧ (u.say x).said.length + (u.say x).pend ≤ u.said.length + u.pend + n := by
    intro x hx
    refine ⟨⟨by simp [Unq.say], by simp [Unq.say], hd, hn⟩, ?_⟩
    have hp : (u.say x).pend = 0 := by simp [Unq.pend, Unq.say]
    rw [hp]
    simp only [Unq.say, List.length_append]
    omega
  unfold stepU at h
  split at h
  · unfold stepFirst at h
    split at h
    · cases h
      refine ⟨⟨by simp, by simp, hd, hn⟩, ?_⟩
      simp [Unq.pend]
      omega
    · cases h
  · split at h
    · rename_i hs1
      have hp : u.pend = 0 := by simp [Unq.pend, hs1]
      unfold stepInside at h
      repeat' split at h
      all_goals cases h
      · refine ⟨⟨by simp [Unq.to], by simp [Unq.to], hd, hn⟩, ?_⟩
        simp [Unq.pend, Unq.to]
        omega
      · refine ⟨⟨by simp [Unq.to], by simp [Unq.to], hd, hn⟩, ?_⟩
        rw [hp]
        simp [Unq.pend, Unq.to]
        omega
      · exact hsay r (by omega)
    · split at h
      · rename_i hs2
        have hp : u.pend = 1 := by simp [Unq.pend, hs2]
        unfold stepEscaped at h
        repeat' split at h
        all_goals cases h
        · exact hsay 10 (by rw [enc_small 10 (by omega) (by omega)]; omega)
        · exact hsay 9 (by rw [enc_small 9 (by omega) (by omega)]; omega)
        · exact hsay r (by omega)
        · refine ⟨⟨by simp [Unq.to], by simp [Unq.to], hd, hn⟩, ?_⟩
          rw [hp]
          simp [Unq.pend, Unq.to]
          omega
      · split at h
        · rename_i hs3
          have hp : u.pend = 2 := by simp [Unq.pend, hs3]
          unfold stepNumbered at h
          split at h
          · cases h
            refine ⟨⟨by simp, by simp, by simp, by simp⟩, ?_⟩
            rw [hp]
            simp [Unq.pend]
            omega
          · cases h
        · split at h
          · rename_i hs4
            have hp : u.pend = 3 + u.dig := by simp [Unq.pend, hs4]
            unfold stepCounting at h
            split at h
            · split at h
              · cases h
              · rename_i hnn
                cases h
                have hl := Lib.runeCells_le (u.num : Int)
                rw [Lib.runeCells_length] at hl
                exact hsay _ (by omega)
            · split at h
              · cases h
              · rename_i hne
                cases h
                have hr := hexv_range r
                refine ⟨⟨h0, h5, ?_, ?_⟩, ?_⟩
                · show u.dig + 1 ≤ 6
                  omega
                · show u.num * 16 + (hexv r).toNat < 16 ^ (u.dig + 1)
                  rw [Nat.pow_succ]
                  omega
                · rw [hp]
                  simp [Unq.pend, hs4]
                  omega
          · cases h

def Unq.start : Unq := { st := 0, q := 0, num := 0, dig := 0, said := [] }
/-- What the runes of a text say from a state of the reader on; the place is that of the first of them. -/
def unqS : List (Nat × List UInt8) → Unq → Nat → Option (List UInt8 × Nat)
  | [], _, _ => none
  | x :: xs, u, pos => if strayP x then none else match stepU u x.1 with
    | none => none
    | some u' => if u'.st = 5 then some (u'.said, pos + 1) else unqS xs u' (pos + x.2.length)
/-- What a text in quotes says, and how many bytes it has. -/
def unquoteL (l : List UInt8) : Option (List UInt8 × Nat) := unqS (scan l) Unq.start 0
def unqRes : Option (List UInt8 × Nat) → Ending
  | none => .returned (.tuple #[.string ⟨#[]⟩, .int .i64 0, .int .i64 10])
  | some x => .returned (.tuple #[.string ⟨x.1.toArray⟩, .int .i64 (x.2 : Int), .int .i64 0])

theorem unqS_stray (l : List UInt8) (h : l ≠ []) (hs : strayL l = true) (u : Unq) (pos : Nat) : unqS (scan l) u pos = none := by
  rw [scan_cons l h, unqS, ← strayL_eq l h, hs]; rfl
theorem unqS_none (l : List UInt8) (h : l ≠ []) (hs : strayL l = false) (u : Unq) (pos : Nat) (hu : stepU u (decL l).1 = none) : unqS (scan l) u pos = none := by
  rw [scan_cons l h, unqS, ← strayL_eq l h, hs, hu]; rfl
theorem unqS_end (l : List UInt8) (h : l ≠ []) (hs : strayL l = false) (u u' : Unq) (pos : Nat) (hu : stepU u (decL l).1 = some u') (h5 : u'.st = 5) : unqS (scan l) u pos = some (u'.said, pos + 1) := by
  rw [scan_cons l h, unqS, ← strayL_eq l h, hs, hu]
  simp [h5]
theorem unqS_more (l : List UInt8) (h : l ≠ []) (hs : strayL l = false) (u u' : Unq) (pos : Nat) (hu : stepU u (decL l).1 = some u') (h5 : u'.st ≠ 5) : unqS (scan l) u pos = unqS (scan (l.drop (decL l).2)) u' (pos + (decL l).2) := by
  have := decL_le l h
  rw [scan_cons l h, unqS, ← strayL_eq l h, hs, hu]
  simp [h5, Nat.min_eq_left this]

theorem conv_row {w : World} {B n c : Nat} {a : Option Addr} {l : List UInt8} (h : w.ownsRowF B 5 1 (.slice a n c) n (Lib.byteCells l)) :
    (convert 80 9 (.slice a n c)).run Tryz.prog w = .ok (.string ⟨l.toArray⟩) w := by
  have hn : n = l.length := by have := h.1; rw [Lib.byteCells_length] at this; omega
  rcases h.2 with ⟨hv, h0⟩ | ⟨g, cap, cur, fz, hv, _⟩
  · cases hv
    have hl : l = [] := List.eq_nil_of_length_eq_zero (by omega)
    subst hl
    exact run_convert_bytes_nil w 80 5 Tryz.underlying80 Tryz.underlying5 _ _ 9 Tryz.underlying9
  · cases hv
    subst hn
    refine run_convert_bytes_back w _ _ 5 _ _ l Tryz.underlying80 Tryz.underlying5 Tryz.underlying9 ?_
    intro j hj
    refine h.cells (g := g) rfl j _ ?_
    simp [Lib.byteCells, List.getElem?_eq_getElem hj]

end Go.Proofs.YtmfgcaffdkakhaaGreat
namespace Go.Proofs.YtmfgcaffdkakhaaGreat
open Go.RowKit

/-- How many bytes the rune has with which a text begins, and which it is; 1 and -1: a byte that belongs to none. -/
def headL (l : List UInt8) : Int × Int := if strayL l then (1, -1) else (((decL l).2 : Int), ((decL l).1 : Int))

def headZ (n b0 b1 b2 b3 : Int) : Int × Int :=
  if b0 < 128 then (1, b0)
  else if b0 < 192 then (1, -1)
  else if b0 < 224 then
    if 2 ≤ n ∧ 128 ≤ b1 ∧ b1 < 192 ∧ 128 ≤ (b0 - 192) * 64 + b1 - 128 then (2, (b0 - 192) * 64 + b1 - 128) else (1, -1)
  else if b0 < 240 then
    if 3 ≤ n ∧ 128 ≤ b1 ∧ b1 < 192 ∧ 128 ≤ b2 ∧ b2 < 192 ∧ 2048 ≤ ((b0 - 224) * 64 + b1 - 128) * 64 + b2 - 128 ∧ ¬ (55296 ≤ ((b0 - 224) * 64 + b1 - 128) * 64 + b2 - 128 ∧ ((b0 - 224) * 64 + b1 - 128) * 64 + b2 - 128 < 57344) then (3, ((b0 - 224) * 64 + b1 - 128) * 64 + b2 - 128) else (1, -1)
  else if b0 < 248 then
    if 4 ≤ n ∧ 128 ≤ b1 ∧ b1 < 192 ∧ 128 ≤ b2 ∧ b2 < 192 ∧ 128 ≤ b3 ∧ b3 < 192 ∧ 65536 ≤ (((b0 - 240) * 64 + b1 - 128) * 64 + b2 - 128) * 64 + b3 - 128 ∧ (((b0 - 240) * 64 + b1 - 128) * 64 + b2 - 128) * 64 + b3 - 128 ≤ 1114111 then (4, (((b0 - 240) * 64 + b1 - 128) * 64 + b2 - 128) * 64 + b3 - 128) else (1, -1)
  else (1, -1)

theorem headL_of {l : List UInt8} {r n : Nat} (h : decL l = (r, n)) (hne : ¬ (r = 65533 ∧ n = 1)) : headL l = ((n : Int), (r : Int)) := by
  rw [headL, strayL, h, if_neg (by simp; omega)]
theorem headL_bad {l : List UInt8} (h : decL l = (65533, 1)) : headL l = (1, -1) := by
  rw [headL, strayL, h]; rfl
theorem pair_eq {a b c d : Int} (h1 : a = c) (h2 : b = d) : (a, b) = (c, d) := by rw [h1, h2]

theorem headL_eq (l : List UInt8) : headL l = headZ l.length (atL l 0) (atL l 1) (atL l 2) (atL l 3) := by
  have a0 := atL_lt l 0
  have a1 := atL_lt l 1
  have a2 := atL_lt l 2
  have a3 := atL_lt l 3
  obtain ⟨d, hd⟩ : ∃ d, decL l = d := ⟨_, rfl⟩
  have hd' := hd
  unfold decL contL Utf8.valid at hd
  generalize atL l 0 = b0 at *
  generalize atL l 1 = b1 at *
  generalize atL l 2 = b2 at *
  generalize atL l 3 = b3 at *
  generalize l.length = n at *
  unfold headZ
  by_cases h1 : b0 < 128
  · rw [if_pos h1] at hd
    rw [if_pos (by omega), headL_of (hd'.trans hd.symm) (by omega)]
    rfl
  rw [if_neg h1] at hd
  rw [if_neg (by omega)]
  by_cases h2 : b0 < 192
  · rw [if_neg (by simp; omega), if_neg (by simp; omega), if_neg (by simp; omega)] at hd
    rw [if_pos (by omega), headL_bad (hd'.trans hd.symm)]
  rw [if_neg (by omega)]
  by_cases h3 : b0 < 224
  · rw [if_pos (by omega)]
    by_cases hq : (b0 / 32 == 6 && (decide (1 < n) && b1 / 64 == 2)) = true
    · rw [if_pos hq] at hd
      simp at hq
      by_cases hv : 128 ≤ b0 % 32 * 64 + b1 % 64
      · rw [if_pos (by omega)] at hd
        rw [if_pos (by omega), headL_of (hd'.trans hd.symm) (by omega)]
        exact pair_eq rfl (by omega)
      · rw [if_neg (by omega)] at hd
        rw [if_neg (by omega), headL_bad (hd'.trans hd.symm)]
    · rw [if_neg hq, if_neg (by simp; omega), if_neg (by simp; omega)] at hd
      simp at hq
      rw [if_neg (by omega), headL_bad (hd'.trans hd.symm)]
  rw [if_neg (by omega)]
  rw [if_neg (show ¬ (b0 / 32 == 6 && (decide (1 < n) && b1 / 64 == 2)) = true by simp; omega)] at hd
  by_cases h4 : b0 < 240
  · rw [if_pos (by omega)]
    by_cases hq : (b0 / 16 == 14 && (decide (1 < n) && b1 / 64 == 2) && (decide (2 < n) && b2 / 64 == 2)) = true
    · rw [if_pos hq] at hd
      simp at hq
      by_cases hv : (2048 ≤ b0 % 16 * 4096 + b1 % 64 * 64 + b2 % 64 ∧ ¬ (55296 ≤ b0 % 16 * 4096 + b1 % 64 * 64 + b2 % 64 ∧ b0 % 16 * 4096 + b1 % 64 * 64 + b2 % 64 < 57344))
      · rw [if_pos (by simp; omega)] at hd
        rw [if_pos (by omega), headL_of (hd'.trans hd.symm) (by omega)]
        exact pair_eq rfl (by omega)
      · rw [if_neg (by simp; omega)] at hd
        rw [if_neg (by omega), headL_bad (hd'.trans hd.symm)]
    · rw [if_neg hq, if_neg (by simp; omega)] at hd
      simp at hq
      rw [if_neg (by omega), headL_bad (hd'.trans hd.symm)]
  rw [if_neg (by omega)]
  rw [if_neg (show ¬ (b0 / 16 == 14 && (decide (1 < n) && b1 / 64 == 2) && (decide (2 < n) && b2 / 64 == 2)) = true by simp; omega)] at hd
  by_cases h5 : b0 < 248
  · rw [if_pos (by omega)]
    by_cases hq : (b0 / 8 == 30 && (decide (1 < n) && b1 / 64 == 2) && (decide (2 < n) && b2 / 64 == 2) && (decide (3 < n) && b3 / 64 == 2)) = true
    · rw [if_pos hq] at hd
      simp at hq
      by_cases hv : (65536 ≤ b0 % 8 * 262144 + b1 % 64 * 4096 + b2 % 64 * 64 + b3 % 64 ∧ b0 % 8 * 262144 + b1 % 64 * 4096 + b2 % 64 * 64 + b3 % 64 ≤ 1114111)
      · rw [if_pos (by simp; omega)] at hd
        rw [if_pos (by omega), headL_of (hd'.trans hd.symm) (by omega)]
        exact pair_eq rfl (by omega)
      · rw [if_neg (by simp; omega)] at hd
        rw [if_neg (by omega), headL_bad (hd'.trans hd.symm)]
    · rw [if_neg hq] at hd
      simp at hq
      rw [if_neg (by omega), headL_bad (hd'.trans hd.symm)]
  rw [if_neg (by simp; omega)] at hd
  rw [if_neg (by omega), headL_bad (hd'.trans hd.symm)]

theorem ret_ii {a b c d : Int} (h : (a, b) = (c, d)) : Ending.returned (.tuple #[.int .i64 a, .int .i64 b]) = .returned (.tuple #[.int .i64 c, .int .i64 d]) := by
  cases h; rfl

theorem byte_at (s : ByteArray) (k : Nat) (h : k < s.size) : (s[k]'h).toNat = atL s.data.toList k := by
  rw [← get_at s k h, get_drop]
  unfold atL
  simp

set_option maxHeartbeats 4000000 in
set_option maxRecDepth 100000 in
theorem head_any (s : ByteArray) (w : World) (h0 : 0 < s.size) (hs : s.size ≤ maxLen) :
    Calls Tryz.prog 81 #[.string s] w fun e w' => e = .returned (.tuple #[.int .i64 (headL s.data.toList).1, .int .i64 (headL s.data.toList).2]) ∧ w' = w := by
  unfold maxLen at hs
  have hz := headL_eq s.data.toList
  rw [← Lib.size_eq] at hz
  have l0 := atL_lt s.data.toList 0
  have l1 := atL_lt s.data.toList 1
  have l2 := atL_lt s.data.toList 2
  have l3 := atL_lt s.data.toList 3
  have e0 := byte_at s 0
  have e1 := byte_at s 1
  have e2 := byte_at s 2
  have e3 := byte_at s 3
  generalize atL s.data.toList 0 = b0 at *
  generalize atL s.data.toList 1 = b1 at *
  generalize atL s.data.toList 2 = b2 at *
  generalize atL s.data.toList 3 = b3 at *
  generalize headL s.data.toList = r at *
  obtain ⟨r1, r2⟩ := r
  have HZ : Hid ((r1, r2) = headZ s.size b0 b1 b2 b3) := hz
  clear hz
  by_cases c1 : b0 < 192
  · clear e1 e2 e3 l1 l2 l3
    go_enter Tryz.func81, Tryz.ntmps81
    go_wp2
    all_goals go_ret2
    all_goals (refine ⟨ret_ii ?_, rfl⟩; rw [HZ.out, headZ]; repeat' (first | rw [if_pos (by omega)] | rw [if_neg (by omega)]))
  by_cases c2 : b0 < 224
  · clear e2 e3 l2 l3
    by_cases hn : s.size < 2
    · clear e1
      go_enter Tryz.func81, Tryz.ntmps81
      go_wp2
      all_goals go_ret2
      all_goals (refine ⟨ret_ii ?_, rfl⟩; rw [HZ.out, headZ]; repeat' (first | rw [if_pos (by omega)] | rw [if_neg (by omega)]))
    · go_enter Tryz.func81, Tryz.ntmps81
      go_wp2
      go_rounds 2
      all_goals go_ret2
      all_goals (refine ⟨ret_ii ?_, rfl⟩; rw [HZ.out, headZ]; repeat' (first | rw [if_pos (by omega)] | rw [if_neg (by omega)]))
  by_cases c3 : b0 < 240
  · clear e3 l3
    by_cases hn : s.size < 3
    · clear e1 e2
      go_enter Tryz.func81, Tryz.ntmps81
      go_wp2
      all_goals go_ret2
      all_goals (refine ⟨ret_ii ?_, rfl⟩; rw [HZ.out, headZ]; repeat' (first | rw [if_pos (by omega)] | rw [if_neg (by omega)]))
    · go_enter Tryz.func81, Tryz.ntmps81
      go_wp2
      go_rounds 3
      all_goals go_ret2
      all_goals (refine ⟨ret_ii ?_, rfl⟩; rw [HZ.out, headZ]; repeat' (first | rw [if_pos (by omega)] | rw [if_neg (by omega)]))
  by_cases c4 : b0 < 248
  · by_cases hn : s.size < 4
    · clear e1 e2 e3
      go_enter Tryz.func81, Tryz.ntmps81
      go_wp2
      all_goals go_ret2
      all_goals (refine ⟨ret_ii ?_, rfl⟩; rw [HZ.out, headZ]; repeat' (first | rw [if_pos (by omega)] | rw [if_neg (by omega)]))
    · go_enter Tryz.func81, Tryz.ntmps81
      go_wp2
      go_rounds 4
      all_goals go_ret2
      all_goals (refine ⟨ret_ii ?_, rfl⟩; rw [HZ.out, headZ]; repeat' (first | rw [if_pos (by omega)] | rw [if_neg (by omega)]))
  · clear e1 e2 e3 l1 l2 l3
    go_enter Tryz.func81, Tryz.ntmps81
    go_wp2
    all_goals go_ret2
    all_goals (refine ⟨ret_ii ?_, rfl⟩; rw [HZ.out, headZ]; repeat' (first | rw [if_pos (by omega)] | rw [if_neg (by omega)]))
end Go.Proofs.YtmfgcaffdkakhaaGreat
namespace Go.Proofs.YtmfgcaffdkakhaaGreat
open Go.RowKit

theorem conv_nums (W : World) (xs : List Int) (t : TypeId) :
    (convert 80 9 (.slice (some ⟨W.heap.size, 0, none⟩) xs.length xs.length)).run Tryz.prog (W.alloc (.cells (xs.map (Value.int .u8)).toArray t)) = .ok (.string (strOfNums xs)) (W.alloc (.cells (xs.map (Value.int .u8)).toArray t)) := by
  refine run_convert_bytes_arg _ 80 5 Tryz.underlying80 Tryz.underlying5 W.heap.size 0 xs.length xs.length xs rfl ?_ 9 Tryz.underlying9
  intro i hi
  have hb : (W.alloc (.cells (xs.map (Value.int .u8)).toArray t)).heap[W.heap.size]? = some (.cells (xs.map (Value.int .u8)).toArray t) := by
    show (W.heap.push _)[W.heap.size]? = _
    simp
  simp only [World.cell?, hb]
  simp [hi]
theorem conv_1 (W : World) (t : TypeId) (a : Int) : (convert 80 9 (.slice (some ⟨W.heap.size, 0, none⟩) 1 1)).run Tryz.prog (W.alloc (.cells #[.int .u8 a] t)) = .ok (.string ⟨#[UInt8.ofNat a.toNat]⟩) (W.alloc (.cells #[.int .u8 a] t)) := conv_nums W [a] t
theorem conv_2 (W : World) (t : TypeId) (a b : Int) : (convert 80 9 (.slice (some ⟨W.heap.size, 0, none⟩) 2 2)).run Tryz.prog (W.alloc (.cells #[.int .u8 a, .int .u8 b] t)) = .ok (.string ⟨#[UInt8.ofNat a.toNat, UInt8.ofNat b.toNat]⟩) (W.alloc (.cells #[.int .u8 a, .int .u8 b] t)) := conv_nums W [a, b] t
theorem conv_3 (W : World) (t : TypeId) (a b c : Int) : (convert 80 9 (.slice (some ⟨W.heap.size, 0, none⟩) 3 3)).run Tryz.prog (W.alloc (.cells #[.int .u8 a, .int .u8 b, .int .u8 c] t)) = .ok (.string ⟨#[UInt8.ofNat a.toNat, UInt8.ofNat b.toNat, UInt8.ofNat c.toNat]⟩) (W.alloc (.cells #[.int .u8 a, .int .u8 b, .int .u8 c] t)) := conv_nums W [a, b, c] t
theorem conv_4 (W : World) (t : TypeId) (a b c d : Int) : (convert 80 9 (.slice (some ⟨W.heap.size, 0, none⟩) 4 4)).run Tryz.prog (W.alloc (.cells #[.int .u8 a, .int .u8 b, .int .u8 c, .int .u8 d] t)) = .ok (.string ⟨#[UInt8.ofNat a.toNat, UInt8.ofNat b.toNat, UInt8.ofNat c.toNat, UInt8.ofNat d.toNat]⟩) (W.alloc (.cells #[.int .u8 a, .int .u8 b, .int .u8 c, .int .u8 d] t)) := conv_nums W [a, b, c, d] t

set_option maxHeartbeats 1000000 in
theorem encode_any (v : Int) (w : World) (h0 : 0 ≤ v) (h1 : v ≤ 1114111) (hs : v < 55296 ∨ 57344 ≤ v) :
    Calls Tryz.prog 105 #[.int .i64 v] w fun e w' => e = .returned (.string ⟨(Lib.encodeRune v).toArray⟩) ∧ Below w.heap.size w w' := by
  by_cases c1 : v < 128
  · have HE : Hid (Lib.encodeRuneZ v = [v]) := Lib.encodeRuneZ_one (by omega) (by omega)
    rw [Lib.encodeRune, HE.out]
    clear hs HE
    have hcv := conv_1 w
    go_enter Tryz.func105, Tryz.ntmps105
    go_wp2
    go_ret
    exact ⟨ret_str rfl, (Below.refl _ w).alloc (Nat.le_refl _) _⟩
  by_cases c2 : v < 2048
  · have HE : Hid (Lib.encodeRuneZ v = [192 + v / 64, 128 + v % 64]) := Lib.encodeRuneZ_two (by omega) (by omega)
    rw [Lib.encodeRune, HE.out]
    clear hs HE
    have hcv := conv_2 w
    go_enter Tryz.func105, Tryz.ntmps105
    go_wp2
    go_ret
    exact ⟨ret_str rfl, (Below.refl _ w).alloc (Nat.le_refl _) _⟩
  by_cases c3 : v < 65536
  · have HE : Hid (Lib.encodeRuneZ v = [224 + v / 4096, 128 + v / 64 % 64, 128 + v % 64]) := Lib.encodeRuneZ_three (by omega)
    rw [Lib.encodeRune, HE.out]
    clear hs HE
    have hcv := conv_3 w
    go_enter Tryz.func105, Tryz.ntmps105
    go_wp2
    go_ret
    exact ⟨ret_str rfl, (Below.refl _ w).alloc (Nat.le_refl _) _⟩
  · have HE : Hid (Lib.encodeRuneZ v = [240 + v / 262144, 128 + v / 4096 % 64, 128 + v / 64 % 64, 128 + v % 64]) := Lib.encodeRuneZ_four (by omega) (by omega)
    rw [Lib.encodeRune, HE.out]
    clear hs HE
    have hcv := conv_4 w
    go_enter Tryz.func105, Tryz.ntmps105
    go_wp2
    go_ret
    exact ⟨ret_str rfl, (Below.refl _ w).alloc (Nat.le_refl _) _⟩

/-- The digits with which a text goes on, up to a count: their number, their value behind one that stood ahead. -/
def digs : Nat → List UInt8 → Nat × Nat → Nat × Nat
  | 0, _, s => s
  | _ + 1, [], s => s
  | f + 1, c :: l, (k, v) => if hexv (c.toNat : Int) < 0 then (k, v) else digs f l (k + 1, v * 16 + (hexv (c.toNat : Int)).toNat)
/-- What stands behind an escaping u: what it says, and how many bytes it has. -/
def numL (l : List UInt8) : Option (List UInt8 × Nat) :=
  match l with
  | [] => none
  | c :: r =>
    if c.toNat ≠ 123 then none
    else if (digs 6 r (0, 0)).1 = 0 ∨ atL r (digs 6 r (0, 0)).1 ≠ 125 ∨ r.length ≤ (digs 6 r (0, 0)).1 ∨ Lib.validRune ((digs 6 r (0, 0)).2 : Int) = false then none
    else some (Lib.encodeRune ((digs 6 r (0, 0)).2 : Int), (digs 6 r (0, 0)).1 + 2)
end Go.Proofs.YtmfgcaffdkakhaaGreat
namespace Go.Proofs.YtmfgcaffdkakhaaGreat

theorem atL_app (p q : List UInt8) (k : Nat) (h : k < p.length) : atL (p ++ q) k = atL p k := by
  unfold atL
  rw [List.getD_eq_getElem?_getD, List.getD_eq_getElem?_getD, List.getElem?_append_left h]
theorem take_app (p q : List UInt8) : (p ++ q).take p.length = p := List.take_left
/-- A rune's bytes with something behind them are still that rune. -/
theorem decL_app (p q : List UInt8) (hne : p ≠ []) (hd : (decL p).2 = p.length) (hs : strayL p = false) : decL (p ++ q) = decL p := by
  have h0 : 0 < p.length := List.length_pos_iff.2 hne
  obtain ⟨d, hdd⟩ : ∃ d, decL p = d := ⟨_, rfl⟩
  have hs' : ¬ (d.1 = 65533 ∧ d.2 = 1) := by
    rw [strayL, hdd] at hs
    simp at hs
    intro h
    exact hs h.1 h.2
  rw [hdd] at hd ⊢
  unfold decL contL at hdd
  unfold decL contL
  rw [List.length_append]
  rw [atL_app p q 0 h0]
  split at hdd
  · rename_i h1
    rw [if_pos h1]; exact hdd
  rename_i h1
  rw [if_neg h1]
  split at hdd
  · rename_i h2
    split at hdd
    · rename_i h3
      subst hdd
      replace hd : 2 = p.length := hd
      rw [atL_app p q 1 (by omega)]
      simp at h2
      rw [if_pos (by simp; omega), if_pos h3]
    · subst hdd; exact absurd ⟨rfl, rfl⟩ hs'
  rename_i h2
  split at hdd
  · rename_i h3
    split at hdd
    · rename_i h4
      subst hdd
      replace hd : 3 = p.length := hd
      rw [atL_app p q 1 (by omega), atL_app p q 2 (by omega)]
      simp at h3
      rw [if_neg (by simp; omega), if_pos (by simp; omega), if_pos h4]
    · subst hdd; exact absurd ⟨rfl, rfl⟩ hs'
  rename_i h3
  split at hdd
  · rename_i h4
    split at hdd
    · rename_i h5
      subst hdd
      replace hd : 4 = p.length := hd
      rw [atL_app p q 1 (by omega), atL_app p q 2 (by omega), atL_app p q 3 (by omega)]
      simp at h4
      rw [if_neg (by simp; omega), if_neg (by simp; omega), if_pos (by simp; omega), if_pos h5]
    · subst hdd; exact absurd ⟨rfl, rfl⟩ hs'
  · subst hdd; exact absurd ⟨rfl, rfl⟩ hs'

/-- One rune is read. -/
theorem unqS_rune (p q : List UInt8) (r : Nat) (u : Unq) (pos : Nat) (hne : p ≠ []) (hd : decL p = (r, p.length)) (hs : strayL p = false) :
    unqS (scan (p ++ q)) u pos = match stepU u r with
      | none => none
      | some u' => if u'.st = 5 then some (u'.said, pos + 1) else unqS (scan q) u' (pos + p.length) := by
  have hd2 := decL_app p q hne (by rw [hd]) hs
  rw [hd] at hd2
  have hpq : p ++ q ≠ [] := by simp [hne]
  have hst : strayP (r, p) = false := by
    rw [strayL, hd] at hs
    exact hs
  rw [scan_cons _ hpq, hd2]
  simp only
  rw [take_app, List.drop_left, unqS, hst]
  rfl

theorem dec_ascii (c : UInt8) (h : c.toNat < 128) : decL [c] = (c.toNat, 1) := by
  have : atL [c] 0 = c.toNat := by simp [atL]
  rw [decL, this, if_pos h]
theorem unqS_ascii (c : UInt8) (q : List UInt8) (u : Unq) (pos : Nat) (h : c.toNat < 128) :
    unqS (scan (c :: q)) u pos = match stepU u c.toNat with
      | none => none
      | some u' => if u'.st = 5 then some (u'.said, pos + 1) else unqS (scan q) u' (pos + 1) := by
  have hd := dec_ascii c h
  exact unqS_rune [c] q c.toNat u pos (by simp) hd (by
    rw [strayL, hd]
    have : (c.toNat == 65533) = false := by simp; omega
    simp [this])
theorem unqS_go (c : UInt8) (q : List UInt8) (u u' : Unq) (pos : Nat) (h : c.toNat < 128) (hs : stepU u c.toNat = some u') (h5 : u'.st ≠ 5) : unqS (scan (c :: q)) u pos = unqS (scan q) u' (pos + 1) := by
  rw [unqS_ascii c q u pos h, hs]
  simp [h5]

theorem hexv_hexc : ∀ d : Fin 16, hexv ((hexc d.val).toNat : Int) = (d.val : Int) ∧ (hexc d.val).toNat < 128 ∧ (hexc d.val).toNat ≠ 125 ∧ 48 ≤ (hexc d.val).toNat := by decide +kernel
end Go.Proofs.YtmfgcaffdkakhaaGreat
namespace Go.Proofs.YtmfgcaffdkakhaaGreat
theorem step0 (u : Unq) (r : Int) (h : u.st = 0) : stepU u r = stepFirst u r := by simp [stepU, h]
theorem step1 (u : Unq) (r : Int) (h : u.st = 1) : stepU u r = stepInside u r := by simp [stepU, h]
theorem step2 (u : Unq) (r : Int) (h : u.st = 2) : stepU u r = stepEscaped u r := by simp [stepU, h]
theorem step3 (u : Unq) (r : Int) (h : u.st = 3) : stepU u r = stepNumbered u r := by simp [stepU, h]
theorem step4 (u : Unq) (r : Int) (h : u.st = 4) : stepU u r = stepCounting u r := by simp [stepU, h]

/-- The number of a sign between braces. -/
theorem go_num (u : Unq) (n : Nat) (hn : n < 128) (q : List UInt8) (pos : Nat) :
    ∃ u', u'.st = 1 ∧ u'.q = u.q ∧ u'.said = u.said ++ Lib.encodeRune (n : Int) ∧ unqS (scan ([117, 123] ++ hexL n ++ 125 :: q)) (u.to 2) pos = unqS (scan q) u' (pos + 2 + (hexL n).length + 1) := by
  have e1 : unqS (scan ([117, 123] ++ hexL n ++ 125 :: q)) (u.to 2) pos = unqS (scan (hexL n ++ 125 :: q)) { u with st := 4, num := 0, dig := 0 } (pos + 2) := by
    show unqS (scan (117 :: 123 :: (hexL n ++ 125 :: q))) (u.to 2) pos = _
    rw [unqS_go 117 _ (u.to 2) (u.to 3) pos (by decide) (by rw [step2 _ _ rfl, stepEscaped, if_neg (by decide), if_neg (by decide), if_neg (by decide), if_pos (by decide)]; rfl) (by simp [Unq.to]),
      unqS_go 123 _ (u.to 3) { u with st := 4, num := 0, dig := 0 } (pos + 1) (by decide) (by rw [step3 _ _ rfl, stepNumbered, if_pos (by decide)]; rfl) (by simp)]
  have hdig : ∀ (v : Unq) (d : Nat) (rest : List UInt8) (p : Nat), d < 16 → v.st = 4 → v.dig ≤ 5 → unqS (scan (hexc d :: rest)) v p = unqS (scan rest) { v with num := v.num * 16 + d, dig := v.dig + 1 } (p + 1) := by
    intro v d rest p hd h4 h5
    obtain ⟨h1, h2, h3, _⟩ := hexv_hexc ⟨d, hd⟩
    simp only at h1 h2 h3
    refine unqS_go _ rest v _ p h2 ?_ (by simp [h4])
    rw [step4 _ _ h4, stepCounting, if_neg (by omega), if_neg (by rw [h1]; omega), h1]
    rfl
  have hend : ∀ (v : Unq) (p : Nat), v.st = 4 → v.num = n → v.dig ≠ 0 → unqS (scan (125 :: q)) v p = unqS (scan q) (v.say n) (p + 1) := by
    intro v p h4 hv hd
    refine unqS_go 125 q v (v.say n) p (by decide) ?_ (by simp [Unq.say])
    have hvr : Lib.validRune (n : Int) = true := by
      unfold Lib.validRune
      simp
      omega
    rw [step4 _ _ h4, stepCounting, if_pos (by decide), hv, if_neg (by rw [hvr]; simp; exact hd)]
  by_cases h16 : n < 16
  · refine ⟨({ u with st := 4, num := n, dig := 1 } : Unq).say n, rfl, rfl, rfl, ?_⟩
    rw [e1, hexL_one n h16]
    show unqS (scan (hexc n :: 125 :: q)) _ _ = _
    rw [hdig _ n _ _ h16 rfl (by simp), hend _ _ rfl (by simp) (by simp)]
    simp [Unq.say]
  · refine ⟨({ u with st := 4, num := n, dig := 2 } : Unq).say n, rfl, rfl, rfl, ?_⟩
    rw [e1, hexL_two n (by omega)]
    show unqS (scan (hexc (n / 16) :: hexc (n % 16) :: 125 :: q)) _ _ = _
    rw [hdig _ (n / 16) _ _ (by omega) rfl (by simp), hdig _ (n % 16) _ _ (by omega) rfl (by simp), hend _ _ rfl (by simp; omega) (by simp)]
    have e2 : n / 16 * 16 + n % 16 = n := by omega
    simp [Unq.say, e2]

end Go.Proofs.YtmfgcaffdkakhaaGreat
namespace Go.Proofs.YtmfgcaffdkakhaaGreat
open Go.RowKit

def headV (l : List UInt8) : Int := if strayL l then -1 else ((decL l).1 : Int)
theorem headL_split (l : List UInt8) : headL l = (((decL l).2 : Int), headV l) := by
  unfold headL headV
  by_cases h : strayL l = true
  · rw [if_pos h, if_pos h]
    have : (decL l).2 = 1 := by simp [strayL] at h; exact h.2
    rw [this]; rfl
  · rw [if_neg h, if_neg h]
theorem head_any2 (s : ByteArray) (w : World) (h0 : 0 < s.size) (hs : s.size ≤ maxLen) :
    Calls Tryz.prog 81 #[.string s] w fun e w' => e = .returned (.tuple #[.int .i64 ((decL s.data.toList).2 : Int), .int .i64 (headV s.data.toList)]) ∧ w' = w := by
  have h := head_any s w h0 hs
  rw [headL_split] at h
  exact h

def strsV (xs : List (Nat × List UInt8)) : List Value := xs.map fun x => .string ⟨x.2.toArray⟩
theorem strsV_append (xs ys : List (Nat × List UInt8)) : strsV (xs ++ ys) = strsV xs ++ strsV ys := by simp [strsV]

theorem cut_head (t : ByteArray) (n : Nat) : t.extract 0 n = ⟨(t.data.toList.take n).toArray⟩ := by
  apply ByteArray.ext
  simp [ByteArray.data_extract]
  apply Array.ext'
  simp
theorem cut_tail (t : ByteArray) (n : Nat) : (t.extract n t.size).data.toList = t.data.toList.drop n := drop_extract t n

def strLen : Value → Nat
  | .string t => t.size
  | _ => 0
theorem ne_nil_of_size (t : ByteArray) (h : 0 < t.size) : t.data.toList ≠ [] := by
  intro e
  have := Lib.size_eq t
  rw [e, List.length_nil] at this
  omega

/-- What is carried from round to round. -/
def RunesAt (w : World) (L : List UInt8) (N : Nat) (wr : World) (t : ByteArray) (v : Value) (b : Bool) : Prop :=
  ∃ done, wr.ownsRow w.heap.size 9 1 v done.length (strsV done) ∧ Below w.heap.size w wr ∧ done ++ scan t.data.toList = scan L ∧ b = (done.all fun x => !strayP x) ∧ done.length + t.size ≤ N

set_option maxHeartbeats 4000000 in
set_option maxRecDepth 100000 in
theorem refRunes_any (s : ByteArray) (w : World) (hs : s.size ≤ 1099511627776) :
    Calls Tryz.prog 76 #[.string s] w fun e w' => ∃ v, e = .returned (.tuple #[v, .bool (validL s.data.toList)]) ∧ w'.ownsRow w.heap.size 9 1 v (scan s.data.toList).length (strsV (scan s.data.toList)) ∧ Below w.heap.size w w' := by
  have hi9 : (Tryz.prog.info? 9).map (fun i => (i.zero, i.size, i.bytes)) = some (some (.string ByteArray.empty), 1, 16) := by kernel_rfl
  obtain ⟨i0, hi, hx⟩ := Option.map_eq_some_iff.1 hi9
  simp only [Prod.mk.injEq] at hx
  obtain ⟨hz0, hz1, hz2⟩ := hx
  clear hi9
  go_enter Tryz.func76, Tryz.ntmps76
  go_wp2
  go_loopw [0, 4, 5] (fun x v b wr => ∃ (t : ByteArray) (bo : Bool), x = .string t ∧ b = .bool bo ∧ RunesAt w s.data.toList s.size wr t v bo) (fun x _ _ _ => strLen x)
  case atStart => exact ⟨s, true, rfl, rfl, [], World.ownsRow_nil _ _ _ _, Below.refl _ _, rfl, rfl, by simp⟩
  case round =>
    obtain ⟨t, bo, rfl, rfl, done, hown, hbw, hdone, hbo, hlen⟩ := hrel
    by_cases h0 : 0 < t.size
    · have hne := ne_nil_of_size t h0
      have hwd := (decL_width t.data.toList).1
      have hwl := decL_le _ hne
      rw [← Lib.size_eq] at hwl
      have hcons := scan_cons _ hne
      have hstr := strayL_eq _ hne
      have hhead := fun w1 => head_any2 t w1 h0 (by unfold maxLen; omega)
      have htl := Lib.size_eq (t.extract (decL t.data.toList).2 t.size)
      have hcut := cut_tail t (decL t.data.toList).2
      rw [hcut, List.length_drop, ← Lib.size_eq] at htl
      obtain ⟨n, hn⟩ : ∃ n, n = (decL t.data.toList).2 := ⟨_, rfl⟩
      have Hstep : Hid (∀ W v, W.ownsRow w.heap.size 9 1 v (done.length + 1) (strsV done ++ [.string (t.extract 0 n)]) → Below w.heap.size w W → RunesAt w s.data.toList s.size W (t.extract n t.size) v (bo && !strayL t.data.toList)) := by
        intro W v hv hW
        refine ⟨done ++ [((decL t.data.toList).1, t.data.toList.take (decL t.data.toList).2)], ?_, hW, ?_, ?_, ?_⟩
        · rw [cut_head, hn] at hv
          rw [List.length_append, strsV_append]
          exact hv
        · rw [hn, hcut, List.append_assoc, ← hdone, hcons]
          rfl
        · rw [hbo, List.all_append, hstr]
          simp
        · rw [List.length_append, hn, htl, List.length_singleton]
          omega
      have hnew : (t.extract n t.size).size < t.size := by rw [hn, htl]; omega
      rw [← hn] at hhead hwd hwl
      clear hcons hstr hcut htl hdone hbo hn
      have hE : t.toList.isEmpty = false := by rw [Lib.toList_data]; simpa using hne
      clear hne
      have hsz := hbw.size
      by_cases hst : strayL t.data.toList = true
      · have hv : headV t.data.toList = -1 := by rw [headV, if_pos hst]
        rw [hv] at hhead
        rw [hst] at Hstep
        clear hv hst
        cases bo
        all_goals
          go_wp2_with (first | (go_at_call 81; refine (hhead _).mono ?_; rintro e w' ⟨rfl, rfl⟩) | (at_builtin; refine wpList_append_own _ rfl _ _ 59 rfl w.heap.size 9 i0 (.string ByteArray.empty) 1 16 Tryz.underlying59 hi hz0 hz1 hz2 rfl (by decide) _ _ _ rfl (hown.alloc _) ⟨_, 0, none⟩ 1 1 [.string (t.extract 0 n)] rfl rfl (cell_one_new _ _ _) (fun x hx => by simp at hx; subst hx; rfl) (by unfold maxLen; omega) (by omega) (by simp; omega) ?_))
          intro v' W2 hown' hg _
          have hb2 := (hbw.alloc (by omega) _).grown hg (by simp; omega) (fun k hk => (hown.lt k hk).1)
          have hqa := Hstep.out W2 v' hown' hb2
          clear hown' hg hb2
          go_wp2
          go_roundw
          case rel => exact ⟨_, _, rfl, rfl, hqa⟩
          case measure => exact hnew
      · have hst' : strayL t.data.toList = false := by simpa using hst
        have hv : headV t.data.toList = ((decL t.data.toList).1 : Int) := by rw [headV, if_neg hst]
        rw [hv] at hhead
        rw [hst'] at Hstep
        clear hv hst hst'
        cases bo
        all_goals
          go_wp2_with (first | (go_at_call 81; refine (hhead _).mono ?_; rintro e w' ⟨rfl, rfl⟩) | (at_builtin; refine wpList_append_own _ rfl _ _ 59 rfl w.heap.size 9 i0 (.string ByteArray.empty) 1 16 Tryz.underlying59 hi hz0 hz1 hz2 rfl (by decide) _ _ _ rfl (hown.alloc _) ⟨_, 0, none⟩ 1 1 [.string (t.extract 0 n)] rfl rfl (cell_one_new _ _ _) (fun x hx => by simp at hx; subst hx; rfl) (by unfold maxLen; omega) (by omega) (by simp; omega) ?_))
          intro v' W2 hown' hg _
          have hb2 := (hbw.alloc (by omega) _).grown hg (by simp; omega) (fun k hk => (hown.lt k hk).1)
          have hqa := Hstep.out W2 v' hown' hb2
          clear hown' hg hb2
          go_wp2
          go_roundw
          case rel => exact ⟨_, _, rfl, rfl, hqa⟩
          case measure => exact hnew
    · have hE : t.toList.isEmpty = true := by
        rw [Lib.toList_data, List.isEmpty_iff]
        exact List.eq_nil_of_length_eq_zero (by rw [← Lib.size_eq]; omega)
      have hnil : scan t.data.toList = [] := by
        rw [Lib.toList_data, List.isEmpty_iff] at hE
        rw [hE]; rfl
      rw [hnil, List.append_nil] at hdone
      subst hdone
      go_wp2
      go_ret2
      exact ⟨_, by rw [validL, ← hbo]; rfl, hown, hbw⟩
end Go.Proofs.YtmfgcaffdkakhaaGreat
namespace Go.Proofs.YtmfgcaffdkakhaaGreat

def escL : List UInt8 → Option (List UInt8 × Nat)
  | [] => none
  | c :: r =>
    if c.toNat = 110 then some ([10], 1)
    else if c.toNat = 116 then some ([9], 1)
    else if c.toNat = 34 ∨ c.toNat = 39 ∨ c.toNat = 92 then some ([c], 1)
    else if c.toNat = 117 then (match numL r with | none => none | some x => some (x.1, x.2 + 1))
    else none

theorem decL_high (l : List UInt8) (h : ¬ atL l 0 < 128) : 128 ≤ (decL l).1 := by
  unfold decL
  rw [if_neg h]
  repeat' split
  all_goals simp_all
  all_goals omega
theorem hexv_high (r : Int) (h : 128 ≤ r) : hexv r < 0 := by unfold hexv; repeat' split
                                                             all_goals omega
theorem hexv_low (c : UInt8) (h : 0 ≤ hexv (c.toNat : Int)) : c.toNat < 128 ∧ c.toNat ≠ 125 := by
  unfold hexv at h
  repeat' split at h
  all_goals omega

/-- A sign that is no single byte below 128 stops the reader where only such signs may stand. -/
theorem unqS_high (c : UInt8) (q : List UInt8) (u : Unq) (pos : Nat) (h : ¬ c.toNat < 128) (hs : ∀ r : Int, 128 ≤ r → stepU u r = none) : unqS (scan (c :: q)) u pos = none := by
  have hne : c :: q ≠ [] := by simp
  have ha : ¬ atL (c :: q) 0 < 128 := by simpa [atL] using h
  by_cases hst : strayL (c :: q) = true
  · exact unqS_stray _ hne hst u pos
  · have hst' : strayL (c :: q) = false := by simpa using hst
    exact unqS_none _ hne hst' u pos (hs _ (by have := decL_high _ ha; omega))
theorem unqS_stop (c : UInt8) (q : List UInt8) (u : Unq) (pos : Nat) (hs : ∀ r : Int, 128 ≤ r ∨ r = (c.toNat : Int) → stepU u r = none) : unqS (scan (c :: q)) u pos = none := by
  by_cases h : c.toNat < 128
  · rw [unqS_ascii c q u pos h, hs _ (Or.inr rfl)]
  · exact unqS_high c q u pos h (fun r hr => hs r (Or.inl hr))

theorem digs_le : ∀ (f : Nat) (r : List UInt8) (k v : Nat), k ≤ (digs f r (k, v)).1 ∧ (digs f r (k, v)).1 ≤ k + f
  | 0, _, k, v => by simp [digs]
  | f + 1, [], k, v => by simp [digs]
  | f + 1, c :: l, k, v => by
    rw [digs]
    split
    · simp
    · have := digs_le f l (k + 1) (v * 16 + (hexv (c.toNat : Int)).toNat)
      omega

/-- The digits are read one by one. -/
theorem digs_read : ∀ (f : Nat) (r : List UInt8) (u : Unq) (p : Nat), u.st = 4 → u.dig + f ≤ 6 →
    unqS (scan r) u p = unqS (scan (r.drop ((digs f r (u.dig, u.num)).1 - u.dig))) { u with num := (digs f r (u.dig, u.num)).2, dig := (digs f r (u.dig, u.num)).1 } (p + ((digs f r (u.dig, u.num)).1 - u.dig))
  | 0, r, u, p, _, _ => by simp [digs]
  | f + 1, [], u, p, _, _ => by simp [digs]
  | f + 1, c :: l, u, p, h4, h6 => by
    rw [digs]
    by_cases hx : hexv (c.toNat : Int) < 0
    · rw [if_pos hx]
      simp
    · rw [if_neg hx]
      obtain ⟨hc, hc2⟩ := hexv_low c (by omega)
      have hgo := unqS_go c l u { u with num := u.num * 16 + (hexv (c.toNat : Int)).toNat, dig := u.dig + 1 } p hc (by rw [step4 u _ h4, stepCounting, if_neg (by omega), if_neg (by omega)]) (by simp [h4])
      rw [hgo, digs_read f l { u with num := u.num * 16 + (hexv (c.toNat : Int)).toNat, dig := u.dig + 1 } (p + 1) h4 (by simp; omega)]
      simp only
      have hle := digs_le f l (u.dig + 1) (u.num * 16 + (hexv (c.toNat : Int)).toNat)
      generalize digs f l (u.dig + 1, u.num * 16 + (hexv (c.toNat : Int)).toNat) = d at *
      have e1 : d.1 - u.dig = (d.1 - (u.dig + 1)) + 1 := by omega
      rw [e1, List.drop_succ_cons]
      congr 1
      omega

/-- Where the digits end: all of them have been counted, the text is through, or no digit is at hand. -/
theorem digs_end : ∀ (f : Nat) (r : List UInt8) (k v : Nat), (digs f r (k, v)).1 = k + f ∨ r.length ≤ (digs f r (k, v)).1 - k ∨ hexv (atL r ((digs f r (k, v)).1 - k) : Int) < 0
  | 0, _, k, v => by simp [digs]
  | f + 1, [], k, v => by simp [digs]
  | f + 1, c :: l, k, v => by
    rw [digs]
    by_cases hx : hexv (c.toNat : Int) < 0
    · rw [if_pos hx]
      right; right
      simpa [atL] using hx
    · rw [if_neg hx]
      have ih := digs_end f l (k + 1) (v * 16 + (hexv (c.toNat : Int)).toNat)
      have hle := digs_le f l (k + 1) (v * 16 + (hexv (c.toNat : Int)).toNat)
      generalize digs f l (k + 1, v * 16 + (hexv (c.toNat : Int)).toNat) = d at *
      have e1 : d.1 - k = (d.1 - (k + 1)) + 1 := by omega
      rcases ih with h | h | h
      · left; omega
      · right; left; simp; omega
      · right; right
        have : atL (c :: l) (d.1 - k) = atL l (d.1 - (k + 1)) := by rw [e1]; simp [atL]
        rw [this]; exact h

theorem num_read (u : Unq) (r : List UInt8) (p : Nat) :
    (numL r = none → unqS (scan r) (u.to 3) p = none) ∧ ∀ t n, numL r = some (t, n) → ∃ u', u'.st = 1 ∧ u'.q = u.q ∧ u'.said = u.said ++ t ∧ unqS (scan r) (u.to 3) p = unqS (scan (r.drop n)) u' (p + n) := by
  cases r with
  | nil => exact ⟨fun _ => rfl, fun t n h => by simp [numL] at h⟩
  | cons c r =>
    by_cases hc : c.toNat = 123
    · have hc8 : c = 123 := UInt8.toNat_inj.1 hc
      have e0 : unqS (scan (c :: r)) (u.to 3) p = unqS (scan r) { u with st := 4, num := 0, dig := 0 } (p + 1) :=
        unqS_go c r (u.to 3) _ p (by omega) (by rw [step3 _ _ rfl, stepNumbered, if_pos (by omega)]; rfl) (by simp)
      have e1 := digs_read 6 r { u with st := 4, num := 0, dig := 0 } (p + 1) rfl (by simp)
      have hen := digs_end 6 r 0 0
      have hle := digs_le 6 r 0 0
      simp only [Nat.sub_zero] at e1 hen
      rw [e1] at e0
      unfold numL
      simp only
      rw [if_neg (by omega)]
      generalize digs 6 r (0, 0) = d at *
      rw [e0]
      by_cases hlen : r.length ≤ d.1
      · rw [if_pos (Or.inr (Or.inr (Or.inl hlen)))]
        refine ⟨fun _ => ?_, fun t n h => by cases h⟩
        rw [List.drop_of_length_le hlen]
        rfl
      · have hdr := List.drop_eq_getElem_cons (show d.1 < r.length by omega)
        have hat : (r[d.1]'(by omega)).toNat = atL r d.1 := by
          unfold atL
          rw [List.getD_eq_getElem?_getD, List.getElem?_eq_getElem (by omega)]; rfl
        by_cases h125 : atL r d.1 = 125
        · by_cases hbad : d.1 = 0 ∨ Lib.validRune (d.2 : Int) = false
          · rw [if_pos (hbad.elim Or.inl (fun h => Or.inr (Or.inr (Or.inr h))))]
            refine ⟨fun _ => ?_, fun t n h => by cases h⟩
            rw [hdr]
            refine unqS_stop _ _ _ _ ?_
            intro x hx
            rw [step4 _ _ rfl, stepCounting]
            rcases hx with hx | hx
            · rw [if_neg (by omega), if_pos (Or.inl (hexv_high x hx))]
            · rw [if_pos (by omega), if_pos hbad]
          · rw [if_neg (fun hh => hh.elim (fun h => hbad (Or.inl h)) (fun hh => hh.elim (fun h => h h125) (fun hh => hh.elim (fun h => hlen h) (fun h => hbad (Or.inr h)))))]
            refine ⟨(fun h => by cases h), fun t n h => ?_⟩
            cases h
            refine ⟨({ u with st := 4, num := d.2, dig := d.1 } : Unq).say d.2, rfl, rfl, rfl, ?_⟩
            rw [hdr, unqS_go _ _ _ (({ u with st := 4, num := d.2, dig := d.1 } : Unq).say d.2) _ (by omega) (by rw [step4 _ _ rfl, stepCounting, if_pos (by omega), if_neg hbad]) (by simp [Unq.say])]
            have e : (c :: r).drop (d.1 + 2) = r.drop (d.1 + 1) := by rw [List.drop_succ_cons]
            rw [e]
            congr 1
            omega
        · rw [if_pos (Or.inr (Or.inl h125))]
          refine ⟨fun _ => ?_, fun t n h => by cases h⟩
          rw [hdr]
          refine unqS_stop _ _ _ _ ?_
          intro x hx
          rw [step4 _ _ rfl, stepCounting]
          rcases hx with hx | hx
          · rw [if_neg (by omega), if_pos (Or.inl (hexv_high x hx))]
          · rw [if_neg (by omega), if_pos]
            rcases hen with h | h | h
            · right; simp only; omega
            · omega
            · left; rw [hx, hat]; exact h
    · unfold numL
      simp only
      rw [if_pos hc]
      refine ⟨fun _ => ?_, fun t n h => by cases h⟩
      refine unqS_stop c r _ p ?_
      intro x hx
      rw [step3 _ _ rfl, stepNumbered, if_neg (by omega)]

theorem esc_read (u : Unq) (r : List UInt8) (p : Nat) :
    (escL r = none → unqS (scan r) (u.to 2) p = none) ∧ ∀ t n, escL r = some (t, n) → ∃ u', u'.st = 1 ∧ u'.q = u.q ∧ u'.said = u.said ++ t ∧ unqS (scan r) (u.to 2) p = unqS (scan (r.drop n)) u' (p + n) := by
  cases r with
  | nil => exact ⟨fun _ => rfl, fun t n h => by simp [escL] at h⟩
  | cons c r =>
    have hone : ∀ (x : Int) (t : List UInt8), c.toNat < 128 → stepEscaped (u.to 2) c.toNat = some ((u.to 2).say x) → Lib.encodeRune x = t → ∀ t' n, some (t, 1) = some (t', n) → ∃ u', u'.st = 1 ∧ u'.q = u.q ∧ u'.said = u.said ++ t' ∧ unqS (scan (c :: r)) (u.to 2) p = unqS (scan ((c :: r).drop n)) u' (p + n) := by
      intro x t hc hs ht t' n h
      cases h
      refine ⟨(u.to 2).say x, rfl, rfl, by rw [← ht]; rfl, ?_⟩
      rw [unqS_go c r (u.to 2) ((u.to 2).say x) p hc (by rw [step2 _ _ rfl]; exact hs) (by simp [Unq.say])]
      rfl
    have e1 : ∀ x : Int, 0 ≤ x → x ≤ 127 → Lib.encodeRune x = [x.toNat.toUInt8] := fun x a b => by rw [Lib.encodeRune, Lib.encodeRuneZ_one a b]; rfl
    unfold escL
    simp only
    by_cases h110 : c.toNat = 110
    · rw [if_pos h110]
      exact ⟨(fun h => by cases h), hone 10 [10] (by omega) (by rw [stepEscaped, if_pos (by omega)]) (by rw [e1 10 (by omega) (by omega)]; rfl)⟩
    rw [if_neg h110]
    by_cases h116 : c.toNat = 116
    · rw [if_pos h116]
      exact ⟨(fun h => by cases h), hone 9 [9] (by omega) (by rw [stepEscaped, if_neg (by omega), if_pos (by omega)]) (by rw [e1 9 (by omega) (by omega)]; rfl)⟩
    rw [if_neg h116]
    by_cases h3 : c.toNat = 34 ∨ c.toNat = 39 ∨ c.toNat = 92
    · rw [if_pos h3]
      exact ⟨(fun h => by cases h), hone (c.toNat : Int) [c] (by omega) (by rw [stepEscaped, if_neg (by omega), if_neg (by omega), if_pos (by omega)]) (by rw [e1 _ (by omega) (by omega)]; simp)⟩
    rw [if_neg h3]
    by_cases h117 : c.toNat = 117
    · rw [if_pos h117]
      have e0 : unqS (scan (c :: r)) (u.to 2) p = unqS (scan r) (u.to 3) (p + 1) :=
        unqS_go c r (u.to 2) (u.to 3) p (by omega) (by rw [step2 _ _ rfl, stepEscaped, if_neg (by omega), if_neg (by omega), if_neg (by omega), if_pos (by omega)]; rfl) (by simp [Unq.to])
      obtain ⟨n1, n2⟩ := num_read u r (p + 1)
      rw [e0]
      cases hn : numL r with
      | none => exact ⟨fun _ => n1 hn, fun t n h => by cases h⟩
      | some x =>
        refine ⟨(fun h => by cases h), fun t n h => ?_⟩
        cases h
        obtain ⟨u', a1, a2, a3, a4⟩ := n2 x.1 x.2 hn
        refine ⟨u', a1, a2, a3, ?_⟩
        rw [a4, List.drop_succ_cons]
        congr 1
        omega
    rw [if_neg h117]
    refine ⟨fun _ => ?_, fun t n h => by cases h⟩
    refine unqS_stop c r _ p ?_
    intro x hx
    rw [step2 _ _ rfl, stepEscaped, if_neg (by omega), if_neg (by omega), if_neg (by omega), if_neg (by omega)]
end Go.Proofs.YtmfgcaffdkakhaaGreat
namespace Go.Proofs.YtmfgcaffdkakhaaGreat
open Go.RowKit

def numRes : Option (List UInt8 × Nat) → Ending
  | none => .returned (.tuple #[.string ⟨#[]⟩, .int .i64 0])
  | some x => .returned (.tuple #[.string ⟨x.1.toArray⟩, .int .i64 (x.2 : Int)])

theorem numL_eq (l : List UInt8) (i v : Nat) (h0 : atL l 0 = 123) (hne : l ≠ []) (hi : 1 ≤ i) (hd : digs 6 (l.drop 1) (0, 0) = (i - 1, v)) :
    numL l = if i = 1 ∨ l.length ≤ i ∨ atL l i ≠ 125 ∨ Lib.validRune (v : Int) = false then none else some (Lib.encodeRune (v : Int), i + 1) := by
  cases l with
  | nil => exact absurd rfl hne
  | cons c r =>
    have hc : c.toNat = 123 := by simpa [atL] using h0
    rw [List.drop_succ_cons, List.drop_zero] at hd
    have e : atL r (i - 1) = atL (c :: r) i := by
      obtain ⟨j, rfl⟩ : ∃ j, i = j + 1 := ⟨i - 1, by omega⟩
      simp [atL]
    unfold numL
    simp only [hd, e]
    rw [if_neg (by omega)]
    by_cases hb : i = 1 ∨ (c :: r).length ≤ i ∨ atL (c :: r) i ≠ 125 ∨ Lib.validRune (v : Int) = false
    · rw [if_pos hb, if_pos]
      rw [List.length_cons] at hb
      rcases hb with h | h | h | h
      · left; omega
      · right; right; left; omega
      · right; left; exact h
      · right; right; right; exact h
    · rw [if_neg hb, if_neg]
      · have : i - 1 + 2 = i + 1 := by omega
        rw [this]
      · intro hh
        apply hb
        rw [List.length_cons]
        rcases hh with h | h | h | h
        · left; omega
        · right; right; left; exact h
        · right; left; omega
        · right; right; right; exact h

theorem numL_none (l : List UInt8) (i v : Nat) (h0 : atL l 0 = 123) (hne : l ≠ []) (hi : 1 ≤ i) (hd : digs 6 (l.drop 1) (0, 0) = (i - 1, v)) (hb : i = 1 ∨ l.length ≤ i ∨ atL l i ≠ 125 ∨ Lib.validRune (v : Int) = false) : numL l = none := by
  rw [numL_eq l i v h0 hne hi hd, if_pos hb]
theorem numL_some (l : List UInt8) (i v : Nat) (h0 : atL l 0 = 123) (hne : l ≠ []) (hi : 1 ≤ i) (hd : digs 6 (l.drop 1) (0, 0) = (i - 1, v)) (hb : ¬ (i = 1 ∨ l.length ≤ i ∨ atL l i ≠ 125 ∨ Lib.validRune (v : Int) = false)) : numL l = some (Lib.encodeRune (v : Int), i + 1) := by
  rw [numL_eq l i v h0 hne hi hd, if_neg hb]
theorem valid_iff (v : Nat) : Lib.validRune (v : Int) = false ↔ (1114111 < v ∨ (55296 ≤ v ∧ v < 57344)) := by
  unfold Lib.validRune
  simp
  omega

set_option maxHeartbeats 4000000 in
set_option maxRecDepth 100000 in
theorem number_any (s : ByteArray) (w : World) (hs : s.size ≤ 140737488351232) :
    Calls Tryz.prog 98 #[.string s] w fun e w' => e = numRes (numL s.data.toList) ∧ Below w.heap.size w w' := by
  by_cases hz : 0 < s.size
  · have hne := ne_nil_of_size s hz
    have hE : s.toList.isEmpty = false := by rw [Lib.toList_data]; simpa using hne
    have hb0 := byte_at s 0
    by_cases h0 : atL s.data.toList 0 = 123
    · obtain ⟨L, hL⟩ : ∃ L, L = s.data.toList := ⟨_, rfl⟩
      have hlen : L.length = s.size := by rw [hL, ← Lib.size_eq]
      have HN : Hid (∀ i v : Nat, 1 ≤ i → digs 6 (L.drop 1) (0, 0) = (i - 1, v) → (i = 1 ∨ s.size ≤ i ∨ atL L i ≠ 125 ∨ (1114111 < v ∨ (55296 ≤ v ∧ v < 57344))) → numL L = none) := by
        intro i v hi hd hb
        refine numL_none L i v (by rw [hL]; exact h0) (by rw [hL]; exact hne) hi hd ?_
        rw [valid_iff, hlen]
        exact hb
      have HY : Hid (∀ i v : Nat, 1 ≤ i → digs 6 (L.drop 1) (0, 0) = (i - 1, v) → ¬ (i = 1 ∨ s.size ≤ i ∨ atL L i ≠ 125 ∨ (1114111 < v ∨ (55296 ≤ v ∧ v < 57344))) → numL L = some (Lib.encodeRune (v : Int), i + 1)) := by
        intro i v hi hd hb
        refine numL_some L i v (by rw [hL]; exact h0) (by rw [hL]; exact hne) hi hd ?_
        rw [valid_iff, hlen]
        exact hb
      have HBY : Hid (∀ i (h : i < s.size), (s[i]'h).toNat = atL L i) := by rw [hL]; exact byte_at s
      rw [h0] at hb0
      rw [← hL]
      have HL : Hid (L.length = s.size) := hlen
      clear hL hlen h0 hne
      go_enter Tryz.func98, Tryz.ntmps98
      go_wp2
      go_loop [4, 5] (fun v i => ∃ (k val : Nat), i = .int .i64 (k : Nat) ∧ v = .int .i64 (val : Nat) ∧ 1 ≤ k ∧ k ≤ 7 ∧ k ≤ s.size ∧ val < 16 ^ (k - 1) ∧ digs (7 - k) (L.drop k) (k - 1, val) = digs 6 (L.drop 1) (0, 0)) (fun _ i => 8 - (intOf i).toNat)
      case atStart => exact ⟨1, 0, rfl, rfl, by omega, by omega, by omega, by simp, rfl⟩
      case round =>
        obtain ⟨i, val, rfl, rfl, h1, h7, hsz, hval, hdg⟩ := hrel
        have hp6 := pow_dig6 (i - 1) (by omega)
        have hby := HBY.out i
        have ha := atL_lt L i
        have hdc := fun w1 => refDigit_any (atL L i) w1 (by omega) (by omega)
        have hnone := HN.out i val h1
        have hsome := HY.out i val h1
        obtain ⟨bi, hbi⟩ : ∃ bi, bi = atL L i := ⟨_, rfl⟩
        rw [← hbi] at hby ha hdc hnone hsome
        by_cases hgo : i < s.size ∧ i ≤ 6 ∧ 0 ≤ hexv (bi : Int)
        · obtain ⟨g1, g2, g3⟩ := hgo
          have hrg := hexv_range (bi : Int)
          obtain ⟨d, hd⟩ : ∃ d : Nat, hexv (bi : Int) = (d : Int) := ⟨(hexv (bi : Int)).toNat, by omega⟩
          have hp5 := pow_dig (i - 1) (by omega)
          have hstep : digs (7 - (i + 1)) (L.drop (i + 1)) (i + 1 - 1, val * 16 + d) = digs 6 (L.drop 1) (0, 0) := by
            rw [← hdg]
            have hdr := List.drop_eq_getElem_cons (show i < L.length by rw [HL.out]; exact g1)
            have hat : ((L[i]'(by rw [HL.out]; exact g1)).toNat : Int) = (bi : Int) := by
              rw [hbi]; unfold atL
              rw [List.getD_eq_getElem?_getD, List.getElem?_eq_getElem (by rw [HL.out]; exact g1)]; rfl
            have e7 : 7 - i = (7 - (i + 1)) + 1 := by omega
            rw [hdr, e7, digs, hat, hd, if_neg (by omega)]
            congr 2
            omega
          have hpw : val * 16 + d < 16 ^ (i + 1 - 1) := by
            have : i + 1 - 1 = (i - 1) + 1 := by omega
            rw [this, Nat.pow_succ]; omega
          rw [hd] at hdc
          have HSTEP : Hid (digs (7 - (i + 1)) (L.drop (i + 1)) (i + 1 - 1, val * 16 + d) = digs 6 (L.drop 1) (0, 0)) := hstep
          have HPW : Hid (val * 16 + d < 16 ^ (i + 1 - 1)) := hpw
          have hv20 : val < 1048576 := by omega
          have hd15 : d ≤ 15 := by omega
          clear hstep hpw hbi hdg hval hp6 hp5 hnone hsome hd hrg g3
          go_wp2_with (go_at_call 104; refine (hdc _).mono ?_; rintro e w' ⟨rfl, rfl⟩)
          go_round
          case rel => exact ⟨i + 1, val * 16 + d, by go_num, by go_num, by omega, by omega, by omega, HPW.out, HSTEP.out⟩
          case measure => simp [intOf]; omega
        · have hend : digs 6 (L.drop 1) (0, 0) = (i - 1, val) := by
            rw [← hdg]
            by_cases e1 : i < s.size
            · by_cases e2 : i ≤ 6
              · have hx : hexv (bi : Int) < 0 := by omega
                have hdr := List.drop_eq_getElem_cons (show i < L.length by rw [HL.out]; exact e1)
                have hat : ((L[i]'(by rw [HL.out]; exact e1)).toNat : Int) = (bi : Int) := by
                  rw [hbi]; unfold atL
                  rw [List.getD_eq_getElem?_getD, List.getElem?_eq_getElem (by rw [HL.out]; exact e1)]; rfl
                have e7 : 7 - i = (7 - (i + 1)) + 1 := by omega
                rw [hdr, e7, digs, hat, if_pos hx]
              · have e7 : 7 - i = 0 := by omega
                rw [e7, digs]
            · rw [List.drop_of_length_le (by rw [HL.out]; omega)]
              generalize 7 - i = f
              cases f <;> rfl
          replace hnone := hnone hend
          replace hsome := hsome hend
          have HNO : Hid ((i = 1 ∨ s.size ≤ i ∨ bi ≠ 125 ∨ (1114111 < val ∨ (55296 ≤ val ∧ val < 57344))) → numL L = none) := hnone
          have HSO : Hid (¬ (i = 1 ∨ s.size ≤ i ∨ bi ≠ 125 ∨ (1114111 < val ∨ (55296 ≤ val ∧ val < 57344))) → numL L = some (Lib.encodeRune (val : Int), i + 1)) := hsome
          have hv24 : val < 16777216 := by omega
          have HGO : Hid (¬ (i < s.size ∧ i ≤ 6 ∧ 0 ≤ hexv (bi : Int))) := hgo
          clear hnone hsome hend hdg hval hp6 hbi hgo
          by_cases c2 : s.size ≤ i
          · have HR : Hid (numL L = none) := HNO.out (Or.inr (Or.inl c2))
            by_cases c1 : i = 1
            all_goals
              go_wp2_with fail
              go_ret2
              exact ⟨by rw [HR.out]; rfl, Below.refl _ _⟩
          have hor : 6 < i ∨ (i ≤ 6 ∧ hexv (bi : Int) < 0) := by have := HGO.out; omega
          clear HGO
          by_cases c1 : i = 1
          · have HR : Hid (numL L = none) := HNO.out (Or.inl c1)
            have hx : hexv (bi : Int) < 0 := by omega
            clear hor
            subst c1
            go_wp2_with (go_at_call 104; refine (hdc _).mono ?_; rintro e w' ⟨rfl, rfl⟩)
            go_ret2
            exact ⟨by rw [HR.out]; rfl, Below.refl _ _⟩
          have b1 : ((i : Int) == 1) = false := by simp; omega
          by_cases c3 : bi = 125
          · have b3 : ((bi : Int) != 125) = false := by simp; omega
            by_cases c4 : 1114111 < val ∨ (55296 ≤ val ∧ val < 57344)
            · have HR : Hid (numL L = none) := HNO.out (Or.inr (Or.inr (Or.inr c4)))
              clear c3 HNO HSO
              rcases hor with o1 | ⟨o1, o2⟩
              all_goals
                rcases c4 with d1 | ⟨d1, d2⟩
                all_goals
                  go_wp2_with (go_at_call 104; refine (hdc _).mono ?_; rintro e w' ⟨rfl, rfl⟩)
                  go_ret2
                  exact ⟨by rw [HR.out]; rfl, Below.refl _ _⟩
            · have HR : Hid (numL L = some (Lib.encodeRune (val : Int), i + 1)) := HSO.out (by omega)
              have hen := encode_any (val : Int) w (by omega) (by omega) (by omega)
              have d0 : val ≤ 1114111 := by omega
              have d3 : val < 55296 ∨ (55296 ≤ val ∧ 57344 ≤ val) := by omega
              clear c3 c4 HNO HSO
              rcases hor with o1 | ⟨o1, o2⟩
              all_goals
                rcases d3 with d1 | ⟨d1, d2⟩
                all_goals
                  go_wp2_with (first | (go_at_call 104; refine (hdc _).mono ?_; rintro e w' ⟨rfl, rfl⟩) | (go_at_call 105; refine hen.mono ?_; rintro e w' ⟨rfl, hb⟩))
                  go_ret2
                  exact ⟨by rw [HR.out]; rfl, hb⟩
          · have HR : Hid (numL L = none) := HNO.out (Or.inr (Or.inr (Or.inl c3)))
            have b3 : ((bi : Int) != 125) = true := by simp; omega
            clear c3 HNO HSO
            rcases hor with o1 | ⟨o1, o2⟩
            all_goals
              go_wp2_with (go_at_call 104; refine (hdc _).mono ?_; rintro e w' ⟨rfl, rfl⟩)
              go_ret2
              exact ⟨by rw [HR.out]; rfl, Below.refl _ _⟩
    · have HR : Hid (numL s.data.toList = none) := by
        cases hl : s.data.toList with
        | nil => rfl
        | cons c r =>
          have hc : atL (c :: r) 0 = c.toNat := by simp [atL]
          rw [hl, hc] at h0
          unfold numL
          simp only
          rw [if_pos h0]
          trivial
      have hlt := atL_lt s.data.toList 0
      generalize atL s.data.toList 0 = b at *
      have bb : ((b : Int) != 123) = true := by simp; omega
      rw [HR.out]
      clear h0
      go_enter Tryz.func98, Tryz.ntmps98
      go_wp2_with fail
      go_ret2
      exact ⟨rfl, Below.refl _ _⟩
  · have hl : s.data.toList = [] := List.eq_nil_of_length_eq_zero (by rw [← Lib.size_eq]; omega)
    have hE : s.toList.isEmpty = true := by rw [Lib.toList_data, hl]; rfl
    rw [hl]
    clear hl
    go_enter Tryz.func98, Tryz.ntmps98
    go_wp2_with fail
    go_ret2
    exact ⟨rfl, Below.refl _ _⟩
end Go.Proofs.YtmfgcaffdkakhaaGreat
namespace Go.Proofs.YtmfgcaffdkakhaaGreat
open Go.RowKit

theorem numL_len (l t : List UInt8) (n : Nat) (h : numL l = some (t, n)) : t.length ≤ n + 1 ∧ 3 ≤ n ∧ n ≤ 8 ∧ n ≤ l.length := by
  cases l with
  | nil => simp [numL] at h
  | cons c r =>
    unfold numL at h
    simp only at h
    split at h
    · cases h
    · split at h
      · cases h
      · rename_i hb
        have hle := digs_le 6 r 0 0
        have hl := Lib.runeCells_le ((digs 6 r (0, 0)).2 : Int)
        rw [Lib.runeCells_length] at hl
        cases h
        have hbb : ¬ (digs 6 r (0, 0)).1 = 0 ∧ ¬ r.length ≤ (digs 6 r (0, 0)).1 := ⟨fun e => hb (Or.inl e), fun e => hb (Or.inr (Or.inr (Or.inl e)))⟩
        rw [List.length_cons]
        omega
theorem escL_len (l t : List UInt8) (n : Nat) (h : escL l = some (t, n)) : t.length ≤ n ∧ 1 ≤ n ∧ n ≤ 9 ∧ n ≤ l.length := by
  cases l with
  | nil => simp [escL] at h
  | cons c r =>
    unfold escL at h
    simp only at h
    rw [List.length_cons]
    split at h
    · cases h; simp
    · split at h
      · cases h; simp
      · split at h
        · cases h; simp
        · split at h
          · cases hn : numL r with
            | none => rw [hn] at h; cases h
            | some x =>
              rw [hn] at h
              cases h
              have := numL_len r x.1 x.2 hn
              omega
          · cases h

set_option maxHeartbeats 4000000 in
set_option maxRecDepth 100000 in
theorem escape_any (s : ByteArray) (w : World) (hs : s.size ≤ 140737488351232) :
    Calls Tryz.prog 82 #[.string s] w fun e w' => e = numRes (escL s.data.toList) ∧ Below w.heap.size w w' := by
  by_cases hz : 0 < s.size
  · have hne := ne_nil_of_size s hz
    have hE : s.toList.isEmpty = false := by rw [Lib.toList_data]; simpa using hne
    have hb0 := byte_at s 0
    have hlt := atL_lt s.data.toList 0
    have htl := cut_tail s 1
    have hcut := cut_head s 1
    have htz := Lib.size_eq (s.extract 1 s.size)
    rw [htl, List.length_drop, ← Lib.size_eq] at htz
    have hnum := fun w1 => number_any (s.extract 1 s.size) w1 (by omega)
    rw [htl] at hnum
    obtain ⟨c, r, hl⟩ : ∃ c r, s.data.toList = c :: r := by
      cases h : s.data.toList with
      | nil => exact absurd h hne
      | cons c r => exact ⟨c, r, rfl⟩
    rw [hl] at hb0 hlt hnum hcut ⊢
    rw [List.drop_succ_cons, List.drop_zero] at hnum
    have hc0 : atL (c :: r) 0 = c.toNat := by simp [atL]
    rw [hc0] at hb0 hlt
    rw [List.take_succ_cons, List.take_zero] at hcut
    obtain ⟨b, hb⟩ : ∃ b : Nat, b = c.toNat := ⟨_, rfl⟩
    rw [← hb] at hb0 hlt
    clear hl hc0 hne htl htz
    unfold escL
    simp only
    rw [← hb]
    by_cases h110 : b = 110
    · rw [if_pos h110]
      clear hb
      subst h110
      go_enter Tryz.func82, Tryz.ntmps82
      go_wp2_with fail
      go_ret2
      exact ⟨rfl, Below.refl _ _⟩
    rw [if_neg h110]
    have b110 : ((b : Int) == 110) = false := by simp; omega
    by_cases h116 : b = 116
    · rw [if_pos h116]
      clear hb h110
      subst h116
      go_enter Tryz.func82, Tryz.ntmps82
      go_wp2_with fail
      go_ret2
      exact ⟨rfl, Below.refl _ _⟩
    rw [if_neg h116]
    have b116 : ((b : Int) == 116) = false := by simp; omega
    by_cases h3 : b = 34 ∨ b = 39 ∨ b = 92
    · rw [if_pos h3]
      clear hb h110 h116
      rcases h3 with rfl | rfl | rfl
      all_goals
        go_enter Tryz.func82, Tryz.ntmps82
        go_wp2_with fail
        go_ret2
        exact ⟨rfl, Below.refl _ _⟩
    rw [if_neg h3]
    have b34 : ((b : Int) == 34) = false := by simp; omega
    have b39 : ((b : Int) == 39) = false := by simp; omega
    have b92 : ((b : Int) == 92) = false := by simp; omega
    by_cases h117 : b = 117
    · rw [if_pos h117]
      clear hb h110 h116 h3
      subst h117
      cases hn : numL r with
      | none =>
        rw [hn] at hnum
        simp only [numRes] at hnum ⊢
        clear hn
        go_enter Tryz.func82, Tryz.ntmps82
        go_wp2_with (go_at_call 98; refine (hnum _).mono ?_)
        rintro e W1 ⟨rfl, b1⟩
        go_wp2
        go_ret2
        exact ⟨rfl, b1⟩
      | some x =>
        obtain ⟨t, n⟩ := x
        have hlen := numL_len r t n hn
        obtain ⟨hn1, hn2, hn3, _⟩ := hlen
        rw [hn] at hnum
        simp only [numRes] at hnum ⊢
        clear hn
        generalize (⟨t.toArray⟩ : ByteArray) = tb at *
        go_enter Tryz.func82, Tryz.ntmps82
        go_wp2_with (go_at_call 98; refine (hnum _).mono ?_)
        rintro e W1 ⟨rfl, b1⟩
        go_wp2
        go_ret2
        exact ⟨rfl, b1⟩
    rw [if_neg h117]
    have b117 : ((b : Int) == 117) = false := by simp; omega
    clear hb h110 h116 h3 h117
    go_enter Tryz.func82, Tryz.ntmps82
    go_wp2_with fail
    go_ret2
    exact ⟨rfl, Below.refl _ _⟩
  · have hl : s.data.toList = [] := List.eq_nil_of_length_eq_zero (by rw [← Lib.size_eq]; omega)
    have hE : s.toList.isEmpty = true := by rw [Lib.toList_data, hl]; rfl
    rw [hl]
    clear hl
    go_enter Tryz.func82, Tryz.ntmps82
    go_wp2_with fail
    go_ret2
    exact ⟨rfl, Below.refl _ _⟩
end Go.Proofs.YtmfgcaffdkakhaaGreat
namespace Go.Proofs.YtmfgcaffdkakhaaGreat
open Go.RowKit
theorem extract_list (s : ByteArray) (a b : Nat) : s.extract a b = ⟨((s.data.toList.take b).drop a).toArray⟩ := by
  apply ByteArray.ext
  apply Array.ext'
  simp [ByteArray.data_extract]
  exact List.drop_take.symm
theorem clone_any (s : ByteArray) (w : World) (hs : s.size ≤ 281474976710656) : Calls Tryz.prog 86 #[.string s] w fun e w' => e = .returned (.string s) ∧ Below w.heap.size w w' := by
  go_enter Tryz.func86, Tryz.ntmps86
  go_wp2_with (go_at_call 100; refine (Tryz.stringslite_Clone s _ hs).mono ?_; rintro e w' ⟨rfl, hb⟩)
  go_ret
  exact ⟨rfl, hb⟩

end Go.Proofs.YtmfgcaffdkakhaaGreat
namespace Go.Proofs.YtmfgcaffdkakhaaGreat
open Go.RowKit
end Go.Proofs.YtmfgcaffdkakhaaGreat
namespace Go.Proofs.YtmfgcaffdkakhaaGreat
open Go.RowKit

/-- What is carried from round to round: so far what has been said, and where. -/
def UnqAt2 (w : World) (L : List UInt8) (N : Nat) (q : Nat) (wr : World) (i : Nat) (v : Value) : Prop :=
  ∃ u : Unq, wr.ownsRowF w.heap.size 5 1 v u.said.length (Lib.byteCells u.said) ∧ Below w.heap.size w wr ∧ unqS (scan (L.drop i)) u i = unquoteL L ∧ u.st = 1 ∧ u.q = (q : Int) ∧ 1 ≤ i ∧ i ≤ N ∧ u.said.length ≤ i

theorem dec_low (l : List UInt8) (h : atL l 0 < 128) : decL l = (atL l 0, 1) := by rw [decL, if_pos h]

theorem slice_run (s : ByteArray) (i n : Nat) (h : i + n ≤ s.size) (W : World) : (Instr.slice 9 (.string s) (some (.int .i64 (i : Int))) (some (.int .i64 ((i : Int) + (n : Int)))) none).run Tryz.prog W = .ok (.string (s.extract i (i + n))) W := by
  rw [run_slice_string W _ _ _ _ _ _ Tryz.underlying9 (by omega) (by omega) (by omega)]
  have e1 : ((i : Int)).toNat = i := by omega
  have e2 : ((i : Int) + (n : Int)).toNat = i + n := by omega
  rw [e1, e2]
theorem unq2_mk {w W3 : World} {L : List UInt8} {N q i : Nat} {v' : Value} {u u' : Unq} {tb : ByteArray} (hown : W3.ownsRowF w.heap.size 5 1 v' (u.said.length + tb.size) (Lib.byteCells u.said ++ Lib.strCells tb)) (hb : Below w.heap.size w W3)
    (hun : unqS (scan (L.drop i)) u' i = unquoteL L) (hst : u'.st = 1) (huq : u'.q = (q : Int)) (h1 : 1 ≤ i) (hN : i ≤ N) (hsaid : u'.said = u.said ++ tb.data.toList) (hlen : u.said.length + tb.size ≤ i) : UnqAt2 w L N q W3 i v' := by
  have hl : u'.said.length = u.said.length + tb.size := by rw [hsaid, List.length_append, ← Lib.size_eq]
  refine ⟨u', ?_, hb, hun, hst, huq, h1, hN, by omega⟩
  rw [hl, hsaid, Lib.byteCells_append, ← Lib.strCells_eq]
  exact hown

set_option maxHeartbeats 4000000 in
set_option maxRecDepth 100000 in
theorem refUnquote_any (s : ByteArray) (w : World) (hs : s.size ≤ 140737488351232) :
    Calls Tryz.prog 55 #[.string s] w fun e w' => e = unqRes (unquoteL s.data.toList) ∧ Below w.heap.size w w' := by
  have hi5 : (Tryz.prog.info? 5).map (fun i => (i.zero, i.size, i.bytes)) = some (some (.int .u8 0), 1, 1) := by kernel_rfl
  obtain ⟨i0, hi, hx⟩ := Option.map_eq_some_iff.1 hi5
  simp only [Prod.mk.injEq] at hx
  obtain ⟨hz0, hz1, hz2⟩ := hx
  clear hi5
  by_cases hz : 0 < s.size
  · have hne := ne_nil_of_size s hz
    have hE : s.toList.isEmpty = false := by rw [Lib.toList_data]; simpa using hne
    have hb0 := byte_at s 0
    have hlt := atL_lt s.data.toList 0
    by_cases hq : atL s.data.toList 0 = 34 ∨ atL s.data.toList 0 = 39
    · obtain ⟨c, r, hl⟩ : ∃ c r, s.data.toList = c :: r := by
        cases h : s.data.toList with
        | nil => exact absurd h hne
        | cons c r => exact ⟨c, r, rfl⟩
      have hc0 : atL (c :: r) 0 = c.toNat := by simp [atL]
      have hstart : unqS (scan (s.data.toList.drop 1)) { Unq.start with st := 1, q := (atL s.data.toList 0 : Int) } 1 = unquoteL s.data.toList := by
        rw [hl, hc0] at hq ⊢
        rw [List.drop_succ_cons, List.drop_zero, unquoteL]
        exact (unqS_go c r Unq.start _ 0 (by omega) (by rw [step0 _ _ rfl, stepFirst, if_pos (by omega)]) (by simp)).symm
      clear hl hc0
      obtain ⟨q, hqq⟩ : ∃ q, q = atL s.data.toList 0 := ⟨_, rfl⟩
      rw [← hqq] at hb0 hlt hq hstart
      obtain ⟨L, hL⟩ : ∃ L, L = s.data.toList := ⟨_, rfl⟩
      have HBY : Hid (∀ i (h : i < s.size), (s[i]'h).toNat = atL (L.drop i) 0) := by
        intro i h
        rw [byte_at s i h, hL]
        unfold atL
        simp
      have HTL : Hid (∀ i, (s.extract i s.size).data.toList = L.drop i) := by rw [hL]; exact cut_tail s
      have HEX : Hid (∀ i j, (s.extract i j).data.toList = (L.take j).drop i) := by
        intro i j
        rw [extract_list, hL]
      have HLN : Hid (L.length = s.size) := by rw [hL]; exact (Lib.size_eq s).symm
      rw [← hL] at hstart ⊢
      have HST : Hid (unqS (scan (L.drop 1)) { Unq.start with st := 1, q := (q : Int) } 1 = unquoteL L) := hstart
      have bq : ((q : Int) != 34) = false ∨ (((q : Int) != 34) = true ∧ ((q : Int) != 39) = false) := by
        rcases hq with h | h
        · left; simp; omega
        · right; constructor <;> simp <;> omega
      have hq2 : q < 128 ∧ q ≠ 10 ∧ q ≠ 13 := by omega
      clear hL hqq hne hstart hq
      rcases bq with bq | ⟨bq1, bq2⟩
      all_goals
        go_enter Tryz.func55, Tryz.ntmps55
        go_wp2
        go_loopw [5, 6] (fun v i wr => ∃ k : Nat, i = .int .i64 (k : Nat) ∧ UnqAt2 w L s.size q wr k v) (fun _ i _ => s.size - (intOf i).toNat)
        case atStart => exact ⟨1, rfl, { Unq.start with st := 1, q := (q : Int) }, World.ownsRowF_nil _ _ _ _, Below.refl _ _, HST.out, rfl, rfl, by omega, by omega, by simp [Unq.start]⟩
        case round =>
          obtain ⟨i, rfl, u, hown, hbw, hun, hst, huq, h1, hN, hsl⟩ := hrel
          have HUN : Hid (unqS (scan (L.drop i)) u i = unquoteL L) := hun
          have hsw := hbw.size
          obtain ⟨a, c, rfl⟩ := ownsRowF_slice hown
          clear hun
          by_cases hin : i < s.size
          · have hby := HBY.out i
            have hlen : (L.drop i).length = s.size - i := by rw [List.length_drop, HLN.out]
            have hD : L.drop i ≠ [] := by intro e; rw [e] at hlen; simp at hlen; omega
            have hwl := decL_le _ hD
            have hwd := (decL_width (L.drop i)).1
            rw [hlen] at hwl
            have hba := atL_lt (L.drop i) 0
            by_cases hbq : atL (L.drop i) 0 = q
            · have hdl := dec_low (L.drop i) (by omega)
              have HR : Hid (unquoteL L = some (u.said, i + 1)) := by
                rw [← HUN.out, unqS_end _ hD (by rw [strayL, hdl]; simp; omega) u (u.to 5) i (by rw [step1 u _ hst, hdl, stepInside, if_neg (by simp only; omega), if_pos (by simp only; rw [huq, hbq])]) rfl]
                trivial
              rw [hbq] at hby
              have hcv := fun n => conv_row (w := wr.drewN n) hown
              have hb2 := fun n => below_drewN hbw n
              clear hdl hbq hba hwl hwd hD hlen huq
              go_wp2
              go_quiet (fail)
              go_wp2
              go_ret3
              exact ⟨by rw [HR.out]; rfl, hb2 _⟩
            · have hex := Lib.size_eq (s.extract i s.size)
              rw [HTL.out i, hlen] at hex
              have hhd := fun w1 => head_any2 (s.extract i s.size) w1 (by omega) (by unfold maxLen; omega)
              rw [HTL.out i] at hhd
              have hescL : (L.drop i).drop 1 = L.drop (i + 1) := by rw [List.drop_drop]
              have hex2 := Lib.size_eq (s.extract (i + 1) s.size)
              rw [HTL.out (i + 1), List.length_drop, HLN.out] at hex2
              have hes := fun w1 => escape_any (s.extract (i + 1) s.size) w1 (by omega)
              rw [HTL.out (i + 1)] at hes
              have hrd := esc_read u (L.drop (i + 1)) (i + 1)
              have helen := escL_len (L.drop (i + 1))
              rw [List.length_drop, HLN.out] at helen
              have htk : (s.extract i (i + (decL (L.drop i)).2)).data.toList = (L.drop i).take (decL (L.drop i)).2 := by
                rw [HEX.out, List.drop_take]
                congr 1
                omega
              have htz := Lib.size_eq (s.extract i (i + (decL (L.drop i)).2))
              rw [htk, List.length_take, hlen] at htz
              have hrq : (decL (L.drop i)).1 ≠ q := by
                intro e
                by_cases hlo : atL (L.drop i) 0 < 128
                · rw [dec_low _ hlo] at e; exact hbq e
                · have := decL_high _ hlo; omega
              have bneq : ((atL (L.drop i) 0 : Int) == (q : Int)) = false := by simp; omega
              have hslr := slice_run s i (decL (L.drop i)).2 (by omega)
              have hownN : ∀ n, (wr.drewN n).ownsRowF w.heap.size 5 1 (.slice a u.said.length c) u.said.length (Lib.byteCells u.said) := fun n => hown
              have hbwN := fun n => below_drewN hbw n
              have hzN : ∀ n, (wr.drewN n).heap.size = wr.heap.size := fun n => rfl
              by_cases hs1 : strayL (L.drop i) = true
              · have HR : Hid (unquoteL L = none) := by rw [← HUN.out, unqS_stray _ hD hs1]; trivial
                have hv : headV (L.drop i) = -1 := by rw [headV, if_pos hs1]
                rw [hv] at hhd
                clear hv hs1 hrd helen hes htk htz hrq hbq hescL
                generalize atL (L.drop i) 0 = b at *
                generalize (decL (L.drop i)).2 = n at *
                go_wp2
                go_quiet (fail)
                go_wp2_with (go_at_call 81; refine (hhd _).mono ?_; rintro e w' ⟨rfl, rfl⟩)
                go_ret3
                exact ⟨by rw [HR.out]; rfl, hbwN _⟩
              have hs2 : strayL (L.drop i) = false := by simpa using hs1
              have hv : headV (L.drop i) = ((decL (L.drop i)).1 : Int) := by rw [headV, if_neg hs1]
              rw [hv] at hhd
              clear hv hs1
              by_cases h10 : (decL (L.drop i)).1 = 10 ∨ (decL (L.drop i)).1 = 13
              · have HR : Hid (unquoteL L = none) := by
                  rw [← HUN.out, unqS_none _ hD hs2 u i (by rw [step1 u _ hst, stepInside, if_pos (by omega)])]; trivial
                clear hrd helen hes htk htz hrq hbq hescL hs2
                generalize atL (L.drop i) 0 = b at *
                generalize (decL (L.drop i)).2 = n at *
                generalize (decL (L.drop i)).1 = r at *
                rcases h10 with rfl | rfl
                all_goals
                  go_wp2
                  go_quiet (fail)
                  go_wp2_with (go_at_call 81; refine (hhd _).mono ?_; rintro e w' ⟨rfl, rfl⟩)
                  go_ret3
                  exact ⟨by rw [HR.out]; rfl, hbwN _⟩
              by_cases h92 : (decL (L.drop i)).1 = 92
              · have hn1 : (decL (L.drop i)).2 = 1 := by
                  by_cases hlo : atL (L.drop i) 0 < 128
                  · rw [dec_low _ hlo]
                  · have := decL_high _ hlo; omega
                have HU2 : Hid (unqS (scan (L.drop (i + 1))) (u.to 2) (i + 1) = unquoteL L) := by
                  rw [← HUN.out, unqS_more _ hD hs2 u (u.to 2) i (by rw [step1 u _ hst, stepInside, if_neg (by omega), if_neg (by rw [huq]; omega), if_pos (by omega)]) (by simp [Unq.to]), hn1, hescL]
                  trivial
                rw [hn1, h92] at hhd
                rw [hn1] at hslr
                have hslr1 : ∀ W : World, (Instr.slice 9 (.string s) (some (.int .i64 (i : Int))) (some (.int .i64 ((i : Int) + 1))) none).run Tryz.prog W = .ok (.string (s.extract i (i + 1))) W := hslr
                clear hslr
                have hwl1 : 1 ≤ s.size - i := by omega
                clear htk htz hrq hbq hescL hs2 h10 hwl hwd
                generalize atL (L.drop i) 0 = b at *
                cases hel : escL (L.drop (i + 1)) with
                | none =>
                  have HR : Hid (unquoteL L = none) := by rw [← HU2.out, hrd.1 hel]; trivial
                  rw [hel] at hes
                  simp only [numRes] at hes
                  clear hel hrd helen h92 hn1
                  go_wp2
                  go_quiet (fail)
                  go_wp2_with (first | (go_at_call 81; refine (hhd _).mono ?_; rintro e w' ⟨rfl, rfl⟩) | (go_at_call 82; refine (hes _).mono ?_))
                  rintro e W2 ⟨rfl, b2⟩
                  have hb3 := (hbwN _).trans (b2.mono (by simp; omega))
                  go_wp2
                  go_ret3
                  exact ⟨by rw [HR.out]; rfl, hb3⟩
                | some x =>
                  obtain ⟨t, k⟩ := x
                  obtain ⟨l1, l2, l3, l4⟩ := helen t k hel
                  obtain ⟨u', a1, a2, a3, a4⟩ := hrd.2 t k hel
                  rw [hel] at hes
                  simp only [numRes] at hes
                  obtain ⟨tb, htb⟩ : ∃ tb : ByteArray, tb = ⟨t.toArray⟩ := ⟨_, rfl⟩
                  rw [← htb] at hes
                  have htd : tb.data.toList = t := by rw [htb]
                  have hts : tb.size = t.length := by rw [Lib.size_eq, htd]
                  have HU3 : Hid (unqS (scan (L.drop (i + (k + 1)))) u' (i + (k + 1)) = unquoteL L) := by
                    rw [← HU2.out, a4, List.drop_drop]
                    have e : i + (k + 1) = i + 1 + k := by omega
                    rw [e]
                    trivial
                  have HSD : Hid (u'.said = u.said ++ tb.data.toList) := by rw [htd]; exact a3
                  have hts2 : tb.size ≤ k := by omega
                  have huq' : u'.q = (q : Int) := a2.trans huq
                  have HUS : Hid (u'.st = 1) := a1
                  have HUQ : Hid (u'.q = (q : Int)) := huq'
                  clear hel hrd helen h92 hn1 a1 a2 a3 a4 htb htd hts l1 huq' huq hst
                  go_wp2
                  go_quiet (fail)
                  go_wp2_with (first | (go_at_call 81; refine (hhd _).mono ?_; rintro e w' ⟨rfl, rfl⟩) | (go_at_call 82; refine (hes _).mono ?_))
                  rintro e W2 ⟨rfl, b2⟩
                  have hzb := b2.size
                  have hb3 := (hbwN _).trans (b2.mono (by simp; omega))
                  have hown2 := (hownN _).kept (grown_of_below b2 none) (by simp [Value.ownBlock]; cases a <;> simp)
                  have hz3 : w.heap.size ≤ W2.heap.size := by simp at hzb; omega
                  go_wp2_with (at_builtin; refine Lib.wpList_append_own_stringF _ rfl _ _ 80 9 rfl w.heap.size 5 i0 Tryz.underlying80 Tryz.underlying9 hi hz0 hz1 hz2 _ _ _ rfl hown2 tb rfl (by unfold maxLen; omega) (by omega) hz3 ?_)
                  intro v' W3 hown3 hg3 _
                  have hb4 := hb3.grown hg3 hz3 (fun k hk => (hown2.lt k hk).1)
                  have hqa : UnqAt2 w L s.size q W3 (i + (k + 1)) v' := unq2_mk hown3 hb4 HU3.out HUS.out HUQ.out (by omega) (by omega) HSD.out (by omega)
                  clear hown3 hg3 hb4
                  go_wp2
                  go_roundw
                  case rel => exact ⟨i + (k + 1), by go_num, hqa⟩
                  case measure => simp [intOf]; omega
              · have HU2 : Hid (unqS (scan (L.drop (i + (decL (L.drop i)).2))) (u.say (decL (L.drop i)).1) (i + (decL (L.drop i)).2) = unquoteL L) := by
                  rw [← HUN.out, unqS_more _ hD hs2 u (u.say (decL (L.drop i)).1) i (by rw [step1 u _ hst, stepInside, if_neg (by omega), if_neg (by rw [huq]; omega), if_neg (by omega)]) (by simp [Unq.say]), List.drop_drop]
                  trivial
                have hen := enc_dec _ hD hs2
                rw [← htk] at hen
                obtain ⟨tb, htb⟩ : ∃ tb, tb = s.extract i (i + (decL (L.drop i)).2) := ⟨_, rfl⟩
                rw [← htb] at hen hslr htz
                have HSD : Hid ((u.say ((decL (L.drop i)).1 : Int)).said = u.said ++ tb.data.toList) := by rw [← hen]; trivial
                have HUS : Hid ((u.say ((decL (L.drop i)).1 : Int)).st = 1) := rfl
                have HUQ : Hid ((u.say ((decL (L.drop i)).1 : Int)).q = (q : Int)) := huq
                clear hrd helen hes htk hrq hbq hescL hs2 hen huq hst htb
                generalize u.say ((decL (L.drop i)).1 : Int) = u' at *
                generalize atL (L.drop i) 0 = b at *
                generalize (decL (L.drop i)).2 = n at *
                generalize (decL (L.drop i)).1 = r at *
                have htz3 : tb.size ≤ n := by omega
                clear htz
                have b10 : ((r : Int) == 10) = false := by simp; omega
                have b13 : ((r : Int) == 13) = false := by simp; omega
                have b92 : ((r : Int) == 92) = false := by simp; omega
                clear h10 h92
                go_wp2
                go_quiet (fail)
                go_wp2_with (first | (go_at_call 81; refine (hhd _).mono ?_; rintro e w' ⟨rfl, rfl⟩) | (at_builtin; refine Lib.wpList_append_own_stringF _ rfl _ _ 80 9 rfl w.heap.size 5 i0 Tryz.underlying80 Tryz.underlying9 hi hz0 hz1 hz2 _ _ _ rfl (hownN _) tb rfl (by unfold maxLen; omega) (by omega) (by simp; omega) ?_))
                intro v' W3 hown3 hg3 _
                have hb4 := (hbwN _).grown hg3 (by simp; omega) (fun k hk => (hown.lt k hk).1)
                have hqa : UnqAt2 w L s.size q W3 (i + n) v' := unq2_mk hown3 hb4 HU2.out HUS.out HUQ.out (by omega) (by omega) HSD.out (by omega)
                clear hown3 hg3 hb4
                go_wp2
                go_roundw
                case rel => exact ⟨i + n, by go_num, hqa⟩
                case measure => simp [intOf]; omega
          · have HR : Hid (unquoteL L = none) := by
              rw [← HUN.out, List.drop_of_length_le (by rw [HLN.out]; omega)]
              trivial
            go_wp2
            go_ret3
            exact ⟨by rw [HR.out]; rfl, hbw⟩
    · have HR : Hid (unquoteL s.data.toList = none) := by
        cases hl : s.data.toList with
        | nil => rfl
        | cons c r =>
          have hc : atL (c :: r) 0 = c.toNat := by simp [atL]
          rw [hl, hc] at hq
          refine unqS_stop c r Unq.start 0 ?_
          intro x hx
          rw [step0 _ _ rfl, stepFirst, if_neg (by omega)]
      generalize atL s.data.toList 0 = b at *
      have b1 : ((b : Int) != 34) = true := by simp; omega
      have b2 : ((b : Int) != 39) = true := by simp; omega
      rw [HR.out]
      clear hq
      go_enter Tryz.func55, Tryz.ntmps55
      go_wp2_with fail
      go_ret3
      exact ⟨rfl, Below.refl _ _⟩
  · have hl : s.data.toList = [] := List.eq_nil_of_length_eq_zero (by rw [← Lib.size_eq]; omega)
    have hE : s.toList.isEmpty = true := by rw [Lib.toList_data, hl]; rfl
    rw [hl]
    clear hl
    go_enter Tryz.func55, Tryz.ntmps55
    go_wp2_with fail
    go_ret3
    exact ⟨rfl, Below.refl _ _⟩
end Go.Proofs.YtmfgcaffdkakhaaGreat
namespace Go.Proofs.YtmfgcaffdkakhaaGreat
open Go.RowKit
end Go.Proofs.YtmfgcaffdkakhaaGreat
namespace Go.Proofs.YtmfgcaffdkakhaaGreat
open Go.RowKit
end Go.Proofs.YtmfgcaffdkakhaaGreat
