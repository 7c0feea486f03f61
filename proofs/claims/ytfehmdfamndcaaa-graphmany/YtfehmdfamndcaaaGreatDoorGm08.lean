/- Own text. Plain mathematics of texts as runes: a text of bytes cut into runes, and bytes that belong to none. Plain mathematics of texts in quotes: what stands for each rune of a text. Plain mathematics of the runes between two places of a text. A rune cut out of a text is that rune by itself. The contracts of the small functions of package runes and of the document's answer: letters and digits. The contracts of stray, Valid and Count of package runes, over a text cut into runes. The contract of byNumber of package runes: the number of a byte in hexadecimal digits. The contract of Quote of package runes: a text in quotes, of every text that is not too long. -/
import Derived.Lib.RuneCount
import Derived.Lib.Strings
import Derived.Lib.RuneBytes
import Derived.Test.YtfehmdfamndcaaaGreatDoorProg
import Derived.WalkKit
import Derived.Test.YtfehmdfamndcaaaGreatDoorShelf
import Derived.Laws.RangeString
import Derived.Laws.RangeAny
import Derived.LoopTactic
import Derived.Handy
import Derived.Lib.OthersKept
import Derived.BigCall
namespace Go.Proofs.YtfehmdfamndcaaaGreatDoor

def atL (l : List UInt8) (k : Nat) : Nat := (l.getD k 0).toNat
def contL (l : List UInt8) (k : Nat) : Bool := decide (k < l.length) && (atL l k / 64 == 2)
/-- The rune with which a text begins, and how many bytes it has; 65533 and 1: a byte that belongs to none. -/
def decL (l : List UInt8) : Nat × Nat :=
  if atL l 0 < 128 then (atL l 0, 1)
  else if atL l 0 / 32 == 6 && contL l 1 then
    if atL l 0 % 32 * 64 + atL l 1 % 64 ≥ 128 then (atL l 0 % 32 * 64 + atL l 1 % 64, 2) else (65533, 1)
  else if atL l 0 / 16 == 14 && contL l 1 && contL l 2 then
    if atL l 0 % 16 * 4096 + atL l 1 % 64 * 64 + atL l 2 % 64 ≥ 2048 && Utf8.valid ((atL l 0 % 16 * 4096 + atL l 1 % 64 * 64 + atL l 2 % 64 : Nat) : Int) then (atL l 0 % 16 * 4096 + atL l 1 % 64 * 64 + atL l 2 % 64, 3) else (65533, 1)
  else if atL l 0 / 8 == 30 && contL l 1 && contL l 2 && contL l 3 then
    if atL l 0 % 8 * 262144 + atL l 1 % 64 * 4096 + atL l 2 % 64 * 64 + atL l 3 % 64 ≥ 65536 && Utf8.valid ((atL l 0 % 8 * 262144 + atL l 1 % 64 * 4096 + atL l 2 % 64 * 64 + atL l 3 % 64 : Nat) : Int) then (atL l 0 % 8 * 262144 + atL l 1 % 64 * 4096 + atL l 2 % 64 * 64 + atL l 3 % 64, 4) else (65533, 1)
  else (65533, 1)

theorem get_drop (s : ByteArray) (i k : Nat) : (s.get! (i + k)).toNat = atL (s.data.toList.drop i) k := by
  unfold atL
  congr 1
  rw [List.getD_eq_getElem?_getD, List.getElem?_drop, Array.getElem?_toList]
  show s.data[i + k]! = _
  rw [getElem!_def]
  cases s.data[i + k]? <;> rfl

theorem decode_eq (s : ByteArray) (i : Nat) : Utf8.decode s i = decL (s.data.toList.drop i) := by
  have hc : ∀ k, decide (i + k < s.size) = decide (k < (s.data.toList.drop i).length) := by
    intro k
    simp only [List.length_drop, Array.length_toList]
    have e : s.size = s.data.size := rfl
    rw [e, decide_eq_decide]
    omega
  simp only [Utf8.decode, decL, contL, get_drop, hc, Utf8.runeError]
  rfl

theorem atL_lt (l : List UInt8) (k : Nat) : atL l k < 256 := (l.getD k 0).toNat_lt

theorem decL_width (l : List UInt8) : 1 ≤ (decL l).2 ∧ (decL l).2 ≤ 4 := by
  unfold decL
  repeat' split
  all_goals simp

theorem decL_le (l : List UInt8) (h : l ≠ []) : (decL l).2 ≤ l.length := by
  have h0 : 1 ≤ l.length := by cases l <;> simp_all
  unfold decL contL
  repeat' split
  all_goals simp_all
  all_goals omega

theorem decL_max (l : List UInt8) : (decL l).1 ≤ 1114111 := by
  have h0 := atL_lt l 0
  unfold decL
  repeat' split
  all_goals simp_all [Utf8.valid]
  all_goals omega

/-- A text cut into runes, each with its bytes. -/
def scanF : Nat → List UInt8 → List (Nat × List UInt8)
  | 0, _ => []
  | f + 1, l => if l = [] then [] else ((decL l).1, l.take (decL l).2) :: scanF f (l.drop (decL l).2)
def scan (l : List UInt8) : List (Nat × List UInt8) := scanF l.length l

theorem scanF_more (l : List UInt8) : ∀ f g, l.length ≤ f → l.length ≤ g → scanF f l = scanF g l := by
  intro f
  induction f generalizing l with
  | zero => intro g hf _; cases l <;> cases g <;> simp_all [scanF]
  | succ f ih =>
    intro g hf hg
    by_cases hl : l = []
    · subst hl; cases g <;> simp [scanF]
    · have hw := decL_width l
      have : 1 ≤ l.length := by cases l <;> simp_all
      cases g with
      | zero => omega
      | succ g =>
        simp only [scanF, if_neg hl]
        rw [ih (l.drop (decL l).2) g (by simp; omega) (by simp; omega)]

theorem scan_nil : scan [] = [] := rfl
theorem scan_cons (l : List UInt8) (h : l ≠ []) : scan l = ((decL l).1, l.take (decL l).2) :: scan (l.drop (decL l).2) := by
  have hw := decL_width l
  have hl : 1 ≤ l.length := by cases l <;> simp_all
  unfold scan
  obtain ⟨n, hn⟩ : ∃ n, l.length = n + 1 := ⟨l.length - 1, by omega⟩
  rw [hn]
  simp only [scanF, if_neg h]
  rw [scanF_more _ n _ (by simp; omega) (Nat.le_refl _)]

/-- The byte at hand belongs to no rune. -/
def strayL (l : List UInt8) : Bool := (decL l).1 == 65533 && (decL l).2 == 1

def strayP (x : Nat × List UInt8) : Bool := x.1 == 65533 && x.2.length == 1
theorem strayL_eq (l : List UInt8) (h : l ≠ []) : strayL l = strayP ((decL l).1, l.take (decL l).2) := by
  have := decL_le l h
  simp [strayL, strayP, Nat.min_eq_left this]
def validL (l : List UInt8) : Bool := (scan l).all fun x => !strayP x
theorem validL_nil : validL [] = true := rfl
theorem validL_stray (l : List UInt8) (h : l ≠ []) (hs : strayL l = true) : validL l = false := by
  rw [validL, scan_cons l h, List.all_cons, ← strayL_eq l h, hs]; rfl
theorem validL_rune (l : List UInt8) (h : l ≠ []) (hs : strayL l = false) : validL l = validL (l.drop (decL l).2) := by
  rw [validL, scan_cons l h, List.all_cons, ← strayL_eq l h, hs]; rfl

theorem prefix_bytes (l : List UInt8) : Lib.hasPrefix l [239, 191, 189] = (decide (2 < l.length) && (atL l 0 == 239) && (atL l 1 == 191) && (atL l 2 == 189)) := by
  unfold Lib.hasPrefix atL
  match l with
  | [] => rfl
  | [a] => simp [List.isPrefixOf]
  | [a, b] => simp [List.isPrefixOf]
  | a :: b :: c :: r =>
    rw [Bool.eq_iff_iff]
    simp [List.isPrefixOf]
    constructor
    · rintro ⟨rfl, rfl, rfl⟩
      simp
    · rintro ⟨⟨h0, h1⟩, h2⟩
      exact ⟨(UInt8.toNat_inj.1 (by rw [h0]; rfl)), (UInt8.toNat_inj.1 (by rw [h1]; rfl)), (UInt8.toNat_inj.1 (by rw [h2]; rfl))⟩

theorem prefix_stray (l : List UInt8) (h : (decL l).1 = 65533) : (Lib.hasPrefix l [239, 191, 189]) = !((decL l).2 == 1) := by
  have hb := atL_lt l 0
  have hb1 := atL_lt l 1
  have hb2 := atL_lt l 2
  rw [prefix_bytes, Bool.eq_iff_iff]
  revert h
  unfold decL contL
  repeat' split
  all_goals simp_all [Utf8.valid]
  all_goals omega
end Go.Proofs.YtfehmdfamndcaaaGreatDoor
namespace Go.Proofs.YtfehmdfamndcaaaGreatDoor

theorem take_getD (l : List UInt8) : ∀ w, w ≤ l.length → l.take w = (List.range w).map fun k => l.getD k 0 := by
  intro w
  induction w with
  | zero => intro _; simp
  | succ w ih =>
    intro h
    rw [List.take_succ_eq_append_getElem (by omega), ih (by omega), List.range_succ, List.map_append]
    simp [List.getD_eq_getElem?_getD, List.getElem?_eq_getElem (show w < l.length by omega)]

theorem u8_of (x : UInt8) (n : Int) (h : n = x.toNat) : n.toNat.toUInt8 = x := by
  apply UInt8.toNat_inj.1
  have := x.toNat_lt
  rw [h]
  simp

/-- A rune's bytes are those with which the text begins. -/
theorem enc_dec (l : List UInt8) (h : l ≠ []) (hs : strayL l = false) : Lib.encodeRune ((decL l).1 : Int) = l.take (decL l).2 := by
  have hle := decL_le l h
  rw [take_getD l _ hle]
  have a0 := atL_lt l 0
  have a1 := atL_lt l 1
  have a2 := atL_lt l 2
  have a3 := atL_lt l 3
  have key : Lib.encodeRuneZ ((decL l).1 : Int) = (List.range (decL l).2).map fun k => ((atL l k : Nat) : Int) := by
    clear hle
    revert hs
    unfold strayL
    unfold decL contL
    split
    · intro _
      rw [Lib.encodeRuneZ_one (by omega) (by omega)]
      rfl
    · split
      · rename_i h1 h2
        simp only [Bool.and_eq_true, beq_iff_eq, decide_eq_true_eq] at h2
        split
        · intro _
          rw [Lib.encodeRuneZ_two (by omega) (by omega)]
          simp [List.range_succ]
          omega
        · simp
      · split
        · rename_i h1 h2 h3
          simp only [Bool.and_eq_true, beq_iff_eq, decide_eq_true_eq] at h3
          split
          · rename_i h4
            simp only [Bool.and_eq_true, decide_eq_true_eq, Utf8.valid, Bool.or_eq_true] at h4
            intro _
            rw [Lib.encodeRuneZ_three (by omega)]
            simp [List.range_succ]
            omega
          · simp
        · split
          · rename_i h1 h2 h3 h4
            simp only [Bool.and_eq_true, beq_iff_eq, decide_eq_true_eq] at h4
            split
            · rename_i h5
              simp only [Bool.and_eq_true, decide_eq_true_eq, Utf8.valid, Bool.or_eq_true] at h5
              intro _
              rw [Lib.encodeRuneZ_four (by omega) (by omega)]
              simp [List.range_succ]
              omega
            · simp
          · simp
  rw [Lib.encodeRune, key, List.map_map]
  apply List.map_congr_left
  intro k _
  exact u8_of _ _ rfl

def hexc (u : Nat) : UInt8 := if u < 10 then UInt8.ofNat (48 + u) else UInt8.ofNat (87 + u)
/-- A number below 256 in hexadecimal digits. -/
def hexL (u : Nat) : List UInt8 := if u < 16 then [hexc u] else [hexc (u / 16), hexc (u % 16)]
theorem hexL_one (u : Nat) (h : u < 16) : hexL u = [hexc u] := by rw [hexL, if_pos h]
theorem hexL_two (u : Nat) (h : 16 ≤ u) : hexL u = [hexc (u / 16), hexc (u % 16)] := by rw [hexL, if_neg (by omega)]
theorem hexL_length (u : Nat) : (hexL u).length ≤ 2 := by unfold hexL; split <;> simp

/-- What stands for a rune, or for a byte that belongs to none, in a text in quotes. -/
def quoteP (x : Nat × List UInt8) : List UInt8 :=
  if strayP x then [92, 117, 123] ++ hexL (atL x.2 0) ++ [125]
  else if x.1 = 34 ∨ x.1 = 92 then 92 :: x.2
  else if x.1 = 10 then [92, 110]
  else if x.1 = 9 then [92, 116]
  else if x.1 < 32 ∨ x.1 = 127 then [92, 117, 123] ++ hexL x.1 ++ [125]
  else x.2
/-- A text in quotes. -/
def quoteL (l : List UInt8) : List UInt8 := 34 :: (scan l).flatMap quoteP ++ [34]

theorem quoteP_length (l : List UInt8) (h : l ≠ []) : (quoteP ((decL l).1, l.take (decL l).2)).length ≤ 6 * (decL l).2 := by
  have hle := decL_le l h
  have hw := decL_width l
  have hh := hexL_length
  have h1 := hh (atL (l.take (decL l).2) 0)
  have h2 := hh (decL l).1
  unfold quoteP
  repeat' split
  all_goals simp
  all_goals omega
end Go.Proofs.YtfehmdfamndcaaaGreatDoor
namespace Go.Proofs.YtfehmdfamndcaaaGreatDoor

abbrev Rns := List (Nat × List UInt8)
def bytesOf (xs : Rns) : List UInt8 := xs.flatMap (·.2)
theorem bytesOf_append (xs ys : Rns) : bytesOf (xs ++ ys) = bytesOf xs ++ bytesOf ys := by simp [bytesOf]
theorem bytesOf_cons (x : Nat × List UInt8) (ys : Rns) : bytesOf (x :: ys) = x.2 ++ bytesOf ys := by simp [bytesOf]

theorem scan_induct (P : List UInt8 → Prop) (h0 : P []) (h1 : ∀ l, l ≠ [] → P (l.drop (decL l).2) → P l) : ∀ l, P l := by
  intro l
  have : ∀ n, ∀ l : List UInt8, l.length ≤ n → P l := by
    intro n
    induction n with
    | zero => intro l hl; have : l = [] := List.eq_nil_of_length_eq_zero (by omega); subst this; exact h0
    | succ n ih =>
      intro l hl
      by_cases he : l = []
      · subst he; exact h0
      · have := (decL_width l).1
        exact h1 l he (ih _ (by rw [List.length_drop]; omega))
  exact this l.length l (Nat.le_refl _)

/-- All runes, one behind the other, are the text. -/
theorem scan_bytes (l : List UInt8) : bytesOf (scan l) = l := by
  refine scan_induct (fun l => bytesOf (scan l) = l) rfl ?_ l
  intro l hl ih
  rw [scan_cons l hl, bytesOf_cons, ih]
  exact List.take_append_drop _ _
/-- Each has a byte. -/
theorem scan_pos (l : List UInt8) : ∀ x ∈ scan l, x.2 ≠ [] := by
  refine scan_induct (fun l => ∀ x ∈ scan l, x.2 ≠ []) (fun x h => by cases h) ?_ l
  intro l hl ih x hx
  rw [scan_cons l hl] at hx
  rcases List.mem_cons.1 hx with rfl | hx
  · intro e
    have h1 := (decL_width l).1
    have h2 := decL_le l hl
    have := congrArg List.length e
    simp at this
    rcases this with h | h
    · omega
    · exact hl h
  · exact ih x hx
theorem scan_length (l : List UInt8) : (scan l).length ≤ l.length := by
  refine scan_induct (fun l => (scan l).length ≤ l.length) (Nat.le_refl _) ?_ l
  intro l hl ih
  have h1 := (decL_width l).1
  have h2 := decL_le l hl
  rw [scan_cons l hl, List.length_cons]
  rw [List.length_drop] at ih
  omega

/-- Where the k-th of the runes begins. -/
def offs (xs : Rns) (k : Nat) : Nat := (bytesOf (xs.take k)).length
theorem offs_zero (xs : Rns) : offs xs 0 = 0 := by simp [offs, bytesOf]
theorem offs_all (xs : Rns) (k : Nat) (h : xs.length ≤ k) : offs xs k = (bytesOf xs).length := by rw [offs, List.take_of_length_le h]
theorem offs_succ (xs : Rns) (k : Nat) (h : k < xs.length) : offs xs (k + 1) = offs xs k + (xs[k]).2.length := by
  rw [offs, List.take_succ_eq_append_getElem h, bytesOf_append, List.length_append, offs]
  simp [bytesOf]
theorem offs_mono (xs : Rns) (a b : Nat) (h : a ≤ b) : offs xs a ≤ offs xs b := by
  rw [offs, offs]
  have : xs.take a = (xs.take b).take a := by rw [List.take_take, Nat.min_eq_left h]
  rw [this]
  have e : bytesOf (xs.take b) = bytesOf ((xs.take b).take a) ++ bytesOf ((xs.take b).drop a) := by rw [← bytesOf_append, List.take_append_drop]
  rw [e, List.length_append]
  omega

/-- The runes from the place a up to the one ahead of b. -/
def part (xs : Rns) (a b : Nat) : List UInt8 := bytesOf ((xs.take b).drop a)
theorem part_bytes (xs : Rns) (a b : Nat) (h : a ≤ b) : ((bytesOf xs).take (offs xs b)).drop (offs xs a) = part xs a b := by
  have e1 : (bytesOf xs).take (offs xs b) = bytesOf (xs.take b) := by
    have : bytesOf xs = bytesOf (xs.take b) ++ bytesOf (xs.drop b) := by rw [← bytesOf_append, List.take_append_drop]
    rw [this, offs, List.take_left]
  have e2 : bytesOf (xs.take b) = bytesOf (xs.take a) ++ part xs a b := by
    have : xs.take a = (xs.take b).take a := by rw [List.take_take, Nat.min_eq_left h]
    rw [this, part, ← bytesOf_append, List.take_append_drop]
  rw [e1, e2, offs, List.drop_left]
theorem part_none (xs : Rns) (a b : Nat) (h : b ≤ a) : part xs a b = [] := by
  rw [part, List.drop_of_length_le (by rw [List.length_take]; omega)]; rfl
theorem part_step (xs : Rns) (a b k : Nat) (h : k < xs.length) : part (xs.take (k + 1)) a b = part (xs.take k) a b ++ (if a ≤ k ∧ k < b then (xs[k]).2 else []) := by
  unfold part
  have hlk : (xs.take k).length = k := by rw [List.length_take]; omega
  rw [List.take_succ_eq_append_getElem h, List.take_append, hlk]
  by_cases hb : k < b
  · have e1 : List.take (b - k) [xs[k]] = [xs[k]] := List.take_of_length_le (by simp; omega)
    have e2 : List.take b (xs.take k) = xs.take k := List.take_of_length_le (by omega)
    rw [e1, e2, List.drop_append, hlk]
    by_cases ha : a ≤ k
    · have : a - k = 0 := by omega
      rw [this, if_pos ⟨ha, hb⟩, bytesOf_append]
      simp [bytesOf]
    · rw [if_neg (by omega), List.drop_of_length_le (by simp; omega : [xs[k]].length ≤ a - k)]
      simp
  · have : b - k = 0 := by omega
    rw [this, if_neg (by omega)]
    simp
theorem part_one (xs : Rns) (k : Nat) (h : k < xs.length) : part xs k (k + 1) = (xs[k]).2 := by
  unfold part
  rw [List.take_succ_eq_append_getElem h, List.drop_append]
  have hlk : (xs.take k).length = k := by rw [List.length_take]; omega
  rw [List.drop_of_length_le (by omega), hlk]
  simp [bytesOf]
end Go.Proofs.YtfehmdfamndcaaaGreatDoor
namespace Go.Proofs.YtfehmdfamndcaaaGreatDoor

theorem atL_take_lt (l : List UInt8) (n k : Nat) (h : k < n) : atL (l.take n) k = atL l k := by
  unfold atL
  rw [List.getD_eq_getElem?_getD, List.getD_eq_getElem?_getD, List.getElem?_take_of_lt h]
theorem contL_take (l : List UInt8) (n k : Nat) (h : k < n) (hn : n ≤ l.length) : contL (l.take n) k = contL l k := by
  unfold contL
  rw [atL_take_lt l n k h]
  congr 1
  rw [List.length_take, decide_eq_decide]
  omega
theorem contL_one (l : List UInt8) (k : Nat) (h : 1 ≤ k) : contL (l.take 1) k = false := by
  unfold contL
  rw [List.length_take]
  have : decide (k < min 1 l.length) = false := by simp; omega
  rw [this]; rfl

theorem decL_one_bad (l : List UInt8) (h : ¬ atL l 0 < 128) : decL (l.take 1) = (65533, 1) := by
  unfold decL
  rw [atL_take_lt l 1 0 (by omega), if_neg h, contL_one l 1 (by omega)]
  simp

theorem decL_take (l : List UInt8) (hne : l ≠ []) : decL (l.take (decL l).2) = decL l := by
  have hle := decL_le l hne
  obtain ⟨d, hd⟩ : ∃ d, decL l = d := ⟨_, rfl⟩
  rw [hd] at hle ⊢
  unfold decL at hd
  split at hd
  · rename_i h1
    subst hd
    show decL (l.take 1) = _
    rw [decL, atL_take_lt l 1 0 (by omega), if_pos h1]
  rename_i h1
  split at hd
  · rename_i h2
    split at hd
    · rename_i h3
      subst hd
      replace hle : 2 ≤ l.length := hle
      show decL (l.take 2) = _
      rw [decL, atL_take_lt l 2 0 (by omega), atL_take_lt l 2 1 (by omega), contL_take l 2 1 (by omega) hle, if_neg h1, if_pos h2, if_pos h3]
    · subst hd
      exact decL_one_bad l h1
  rename_i h2
  split at hd
  · rename_i h3
    split at hd
    · rename_i h4
      subst hd
      replace hle : 3 ≤ l.length := hle
      show decL (l.take 3) = _
      rw [decL, atL_take_lt l 3 0 (by omega), atL_take_lt l 3 1 (by omega), atL_take_lt l 3 2 (by omega), contL_take l 3 1 (by omega) hle, contL_take l 3 2 (by omega) hle, if_neg h1, if_neg h2, if_pos h3, if_pos h4]
    · subst hd
      exact decL_one_bad l h1
  rename_i h3
  split at hd
  · rename_i h4
    split at hd
    · rename_i h5
      subst hd
      replace hle : 4 ≤ l.length := hle
      show decL (l.take 4) = _
      rw [decL, atL_take_lt l 4 0 (by omega), atL_take_lt l 4 1 (by omega), atL_take_lt l 4 2 (by omega), atL_take_lt l 4 3 (by omega), contL_take l 4 1 (by omega) hle, contL_take l 4 2 (by omega) hle, contL_take l 4 3 (by omega) hle, if_neg h1, if_neg h2, if_neg h3, if_pos h4, if_pos h5]
    · subst hd
      exact decL_one_bad l h1
  · subst hd
    exact decL_one_bad l h1

theorem scan_dec (l : List UInt8) : ∀ x ∈ scan l, decL x.2 = (x.1, x.2.length) := by
  refine scan_induct (fun l => ∀ x ∈ scan l, decL x.2 = (x.1, x.2.length)) (fun x h => by cases h) ?_ l
  intro l hl ih x hx
  rw [scan_cons l hl] at hx
  rcases List.mem_cons.1 hx with rfl | hx
  · rw [decL_take l hl, List.length_take, Nat.min_eq_left (decL_le l hl)]
  · exact ih x hx
theorem scan_stray (l : List UInt8) (x : Nat × List UInt8) (hx : x ∈ scan l) : strayL x.2 = strayP x := by
  rw [strayL, scan_dec l x hx]; rfl
/-- A rune that is no byte alone is written by its own bytes. -/
theorem scan_enc (l : List UInt8) (x : Nat × List UInt8) (hx : x ∈ scan l) (hs : strayP x = false) : Lib.encodeRune (x.1 : Int) = x.2 := by
  have h := enc_dec x.2 (scan_pos l x hx) (by rw [scan_stray l x hx]; exact hs)
  rw [scan_dec l x hx] at h
  rw [h]
  exact List.take_of_length_le (Nat.le_refl _)
end Go.Proofs.YtfehmdfamndcaaaGreatDoor
namespace Go.Proofs.YtfehmdfamndcaaaGreatDoor
open Go.RowKit

def letterB (r : Int) : Bool :=
  decide ((97 ≤ r ∧ r ≤ 122) ∨ (65 ≤ r ∧ r ≤ 90) ∨ (192 ≤ r ∧ r ≤ 591 ∧ r ≠ 215 ∧ r ≠ 247) ∨ (913 ≤ r ∧ r ≤ 969 ∧ r ≠ 930) ∨ (1040 ≤ r ∧ r ≤ 1103))
def digitB (r : Int) : Bool := decide (48 ≤ r ∧ r ≤ 57)
/-- The digit that a rune is in a hexadecimal number; -1: none. -/
def hexv (r : Int) : Int :=
  if 48 ≤ r ∧ r ≤ 57 then r - 48 else if 97 ≤ r ∧ r ≤ 102 then r - 87 else if 65 ≤ r ∧ r ≤ 70 then r - 55 else -1

def hexd (r : Int) : Int := if hexv r < 0 then 0 else hexv r
def hexok (r : Int) : Bool := decide (0 ≤ hexv r)

theorem ret_bool {a b : Bool} (h : a = b) : Ending.returned (.bool a) = .returned (.bool b) := by rw [h]
theorem ret_int {k : IntKind} {a b : Int} (h : a = b) : Ending.returned (.int k a) = .returned (.int k b) := by rw [h]
theorem hexv_range (r : Int) : -1 ≤ hexv r ∧ hexv r ≤ 15 := by
  unfold hexv
  repeat' split
  all_goals omega

theorem letter_any (r : Int) (w : World) :
    Calls Tryz.prog 133 #[.int .i32 r] w fun e w' => e = .returned (.bool (letterB r)) ∧ w' = w := by
  go_enter Tryz.func133, Tryz.ntmps133
  go_wp2
  all_goals go_ret
  all_goals (refine ⟨ret_bool ?_, rfl⟩; rw [Bool.eq_iff_iff]; simp [letterB]; omega)

theorem digit_any (r : Int) (w : World) :
    Calls Tryz.prog 121 #[.int .i32 r] w fun e w' => e = .returned (.bool (digitB r)) ∧ w' = w := by
  go_enter Tryz.func121, Tryz.ntmps121
  go_wp2
  all_goals go_ret
  all_goals (refine ⟨ret_bool ?_, rfl⟩; rw [Bool.eq_iff_iff]; simp [digitB]; omega)

theorem ret_ib {k : IntKind} {a c : Int} {b d : Bool} (h : a = c) (h2 : b = d) : Ending.returned (.tuple #[.int k a, .bool b]) = .returned (.tuple #[.int k c, .bool d]) := by rw [h, h2]
theorem hexDigit_any (r : Int) (w : World) (h0 : -2147483648 ≤ r) (h1 : r ≤ 2147483647) :
    Calls Tryz.prog 164 #[.int .i32 r] w fun e w' => e = .returned (.tuple #[.int .i32 (hexd r), .bool (hexok r)]) ∧ w' = w := by
  go_enter Tryz.func164, Tryz.ntmps164
  go_wp2_with (go_at_call 121; go_in)
  all_goals go_ret2
  all_goals (refine ⟨ret_ib ?_ ?_, rfl⟩ <;> (simp only [hexd, hexok, hexv]; repeat' split) <;> (first | omega | (simp; done) | (simp; omega)))
theorem hexDigit_no (r : Int) (w : World) (h0 : -2147483648 ≤ r) (h1 : r ≤ 2147483647) (h : hexv r < 0) :
    Calls Tryz.prog 164 #[.int .i32 r] w fun e w' => e = .returned (.tuple #[.int .i32 0, .bool false]) ∧ w' = w := by
  refine (hexDigit_any r w h0 h1).mono ?_
  rintro e w' ⟨rfl, rfl⟩
  exact ⟨ret_ib (by rw [hexd, if_pos h]) (by simp [hexok]; omega), rfl⟩
theorem hexDigit_yes (r : Int) (w : World) (h0 : -2147483648 ≤ r) (h1 : r ≤ 2147483647) (h : 0 ≤ hexv r) :
    Calls Tryz.prog 164 #[.int .i32 r] w fun e w' => e = .returned (.tuple #[.int .i32 (hexv r), .bool true]) ∧ w' = w := by
  refine (hexDigit_any r w h0 h1).mono ?_
  rintro e w' ⟨rfl, rfl⟩
  exact ⟨ret_ib (by rw [hexd, if_neg (by omega)]) (by simp [hexok]; omega), rfl⟩

end Go.Proofs.YtfehmdfamndcaaaGreatDoor
namespace Go.Proofs.YtfehmdfamndcaaaGreatDoor
open Go.RowKit

theorem drop_extract (s : ByteArray) (i : Nat) : (s.extract i s.size).data.toList = s.data.toList.drop i := by
  rw [ByteArray.data_extract]
  simp
  exact List.take_of_length_le (by simp)

theorem stray_any (s : ByteArray) (pos : Nat) (w : World) (h : pos < s.size) :
    Calls Tryz.prog 148 #[.string s, .int .i64 pos, .int .i32 (decL (s.data.toList.drop pos)).1] w fun e w' => e = .returned (.bool (strayL (s.data.toList.drop pos))) ∧ w' = w := by
  have hp := prefix_stray (s.data.toList.drop pos)
  have HP : Hid (Lib.hasPrefix (s.extract pos s.size).data.toList [239, 191, 189] = Lib.hasPrefix (s.data.toList.drop pos) [239, 191, 189]) := by rw [drop_extract]; trivial
  obtain ⟨d, hd⟩ : ∃ d, d = decL (s.data.toList.drop pos) := ⟨_, rfl⟩
  have HD : Hid (strayL (s.data.toList.drop pos) = (d.1 == 65533 && d.2 == 1)) := by rw [strayL, ← hd]; trivial
  rw [← hd] at hp ⊢
  clear hd
  by_cases hr : d.1 = 65533
  · have HQ : Hid (Lib.hasPrefix (s.extract pos s.size).data.toList [239, 191, 189] = !(d.2 == 1)) := HP.out.trans (hp hr)
    clear hp HP
    rw [HD.out]
    go_enter Tryz.func148, Tryz.ntmps148
    go_wp2_with (go_at_call 17; refine (Tryz.strings_HasPrefix _ _ _).mono ?_; rintro e w' ⟨rfl, rfl⟩)
    go_ret
    refine ⟨ret_bool ?_, rfl⟩
    have e := HQ.out
    rw [drop_extract] at e
    rw [List.take_of_length_le (by rw [List.length_drop, Lib.size_eq]; omega), e, hr]
    simp
  · clear hp HP
    rw [HD.out]
    have hb : ((d.1 : Int) == 65533) = false := by simp; omega
    go_enter Tryz.func148, Tryz.ntmps148
    go_wp2_with fail
    go_ret
    refine ⟨ret_bool ?_, rfl⟩
    simp [hr]

theorem drop_ne (s : ByteArray) (pos : Nat) (h : pos < s.size) : s.data.toList.drop pos ≠ [] := by
  intro e
  have := congrArg List.length e
  rw [List.length_drop, ← Lib.size_eq] at this
  simp at this
  omega
theorem drop_end (s : ByteArray) (pos : Nat) (h : ¬ pos < s.size) : s.data.toList.drop pos = [] := by
  apply List.drop_of_length_le
  rw [← Lib.size_eq]
  omega
theorem width_le (s : ByteArray) (pos : Nat) (h : pos < s.size) : pos + (decL (s.data.toList.drop pos)).2 ≤ s.size := by
  have := decL_le _ (drop_ne s pos h)
  rw [List.length_drop, ← Lib.size_eq] at this
  omega
theorem scan_drop (s : ByteArray) (pos : Nat) (h : pos < s.size) : scan (s.data.toList.drop pos) = ((decL (s.data.toList.drop pos)).1, (s.data.toList.drop pos).take (decL (s.data.toList.drop pos)).2) :: scan (s.data.toList.drop (pos + (decL (s.data.toList.drop pos)).2)) := by
  rw [scan_cons _ (drop_ne s pos h), List.drop_drop]
theorem run_next_dec {P : Program} (w : World) (s : ByteArray) (pos : Nat) (ty : TypeId) (h : pos < s.size) :
    (Instr.next (.pointer (some ⟨w.heap.size, 0, none⟩)) true ty).run P (w.iter s pos) =
      .ok (.tuple #[.bool true, .int .i64 pos, .int .i32 (decL (s.data.toList.drop pos)).1]) (w.iter s (pos + (decL (s.data.toList.drop pos)).2)) := by
  rw [← decode_eq]
  exact run_next_any w s pos ty h


end Go.Proofs.YtfehmdfamndcaaaGreatDoor
namespace Go.Proofs.YtfehmdfamndcaaaGreatDoor
open Go.RowKit

theorem digit_at (u : Nat) (hu : u < 16) (h : u < (ByteArray.mk #[48, 49, 50, 51, 52, 53, 54, 55, 56, 57, 97, 98, 99, 100, 101, 102, 103, 104, 105, 106, 107, 108, 109, 110, 111, 112, 113, 114, 115, 116, 117, 118, 119, 120, 121, 122]).size) :
    (ByteArray.mk #[48, 49, 50, 51, 52, 53, 54, 55, 56, 57, 97, 98, 99, 100, 101, 102, 103, 104, 105, 106, 107, 108, 109, 110, 111, 112, 113, 114, 115, 116, 117, 118, 119, 120, 121, 122])[u]'h = hexc u := by
  have hall : ∀ v : Fin 16, (ByteArray.mk #[48, 49, 50, 51, 52, 53, 54, 55, 56, 57, 97, 98, 99, 100, 101, 102, 103, 104, 105, 106, 107, 108, 109, 110, 111, 112, 113, 114, 115, 116, 117, 118, 119, 120, 121, 122]).data.toList.getD v.val 0 = hexc v.val := by decide
  rw [← hall ⟨u, hu⟩]
  show _ = (ByteArray.mk _).data.toList.getD u 0
  rw [List.getD_eq_getElem?_getD, Array.getElem?_toList, Array.getElem?_eq_getElem h]
  rfl

theorem conv_cells (W : World) (C : Array Value) (t : TypeId) (o : Nat) (l : List UInt8) (h : ∀ j (hj : j < l.length), C[o + j]? = some (.int .u8 (l[j].toNat : Int))) (c : Nat) :
    (convert 37 9 (.slice (some ⟨W.heap.size, o, none⟩) l.length c)).run Tryz.prog (W.alloc (.cells C t)) = .ok (.string ⟨l.toArray⟩) (W.alloc (.cells C t)) := by
  refine run_convert_bytes_back _ _ _ 5 _ _ l Tryz.underlying37 Tryz.underlying5 Tryz.underlying9 ?_
  intro j hj
  rw [← h j hj]
  have hb : (W.alloc (.cells C t)).heap[W.heap.size]? = some (.cells C t) := by
    show (W.heap.push _)[W.heap.size]? = _
    simp
  have ha : (⟨W.heap.size, o, none⟩ : Addr).add j = ⟨W.heap.size, o + j, none⟩ := by cases j <;> simp [Addr.add]
  rw [ha]
  simp only [World.cell?, hb]
  rfl

def zc65 : Array Value := (List.replicate 65 (Value.int .u8 0)).toArray
theorem zc65_size : zc65.size = 65 := by kernel_rfl
theorem ret_ss {a b : ByteArray} (h : a = b) : Ending.returned (.tuple #[.slice none 0 0, .string a]) = .returned (.tuple #[.slice none 0 0, .string b]) := by rw [h]
theorem ret_str {a b : ByteArray} (h : a = b) : Ending.returned (.string a) = .returned (.string b) := by rw [h]

end Go.Proofs.YtfehmdfamndcaaaGreatDoor
namespace Go.Proofs.YtfehmdfamndcaaaGreatDoor
open Go.RowKit

theorem grown_of_below {w w' : World} (h : Below w.heap.size w w') (row : Option Nat) : w.grownBy w' row := ⟨h.os, h.tape, h.output, h.size, fun k hk _ => h.block k hk⟩
theorem builder_below {T e : TypeId} {B b : Nat} {bs : List Value} {w w' : World} (h : Lib.IsBuilderF T e B b bs w) (hb : Below w.heap.size w w') : Lib.IsBuilderF T e B b bs w' := by
  have one : ∀ p, Lib.BuilderAtF T e B b p bs w → Lib.BuilderAtF T e B b p bs w' := by
    intro p hp
    have hlt := hp.lt
    obtain ⟨hB, v, hv, hown, hne⟩ := hp
    exact ⟨hB, v, (hb.block b hlt).trans hv, hown.kept (grown_of_below hb none) (by cases hv : v.ownBlock <;> simp), hne⟩
  exact h.elim (fun x => .inl (one _ x)) (fun x => .inr (one _ x))
theorem run_next_dec_at {P : Program} (w : World) (k : Nat) (s : ByteArray) (pos : Nat) (ty : TypeId) (hk : w.heap[k]? = some (.stringIter s pos)) (h : pos < s.size) :
    (Instr.next (.pointer (some ⟨k, 0, none⟩)) true ty).run P w =
      .ok (.tuple #[.bool true, .int .i64 pos, .int .i32 (decL (s.data.toList.drop pos)).1]) (w.iterAt k s (pos + (decL (s.data.toList.drop pos)).2)) := by
  rw [← decode_eq]
  exact Lib.run_next_any_at w k s pos ty hk h
theorem first_byte (s : ByteArray) (pos : Nat) (h : pos < s.size) : (s[pos]'h).toNat = atL (s.data.toList.drop pos) 0 := by
  rw [← get_drop, get_at s pos h]
theorem atL_take (l : List UInt8) (n : Nat) (h : 1 ≤ n) : atL (l.take n) 0 = atL l 0 := by
  unfold atL
  cases l <;> cases n <;> simp_all

theorem cons_cells (l : List UInt8) : [Value.int .u8 92] ++ Lib.byteCells l = Lib.byteCells (92 :: l) := by simp [Lib.byteCells]
end Go.Proofs.YtfehmdfamndcaaaGreatDoor
