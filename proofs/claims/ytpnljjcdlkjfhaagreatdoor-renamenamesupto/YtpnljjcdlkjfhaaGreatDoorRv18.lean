/- Own text. The reader of texts in quotes, rune by rune: its steps as plain mathematics, and how it lies in memory. The contracts of the reader's steps: what each rune does to it. The contract of Unquote of package runes: what the text in quotes says with which a text begins, or that there is none. Tokens of a source, as rows of bytes: names, numbers, texts, signs, blanks and notes; all tokens of a text. The document's reader of names, blanks and notes. -/
import Derived.Lib.Small
import Derived.Test.YtpnljjcdlkjfhaaGreatDoorRv17
import Derived.Test.YtpnljjcdlkjfhaaGreatDoorRv10
import Derived.WalkKit
namespace Go.Proofs.YtpnljjcdlkjfhaaGreatDoor
open Go.RowKit

/-- Where the reader stands, which quote began, what has been said, and the number at hand with its digits. -/
structure Unq where
  st : Int
  q : Int
  num : Nat
  dig : Nat
  said : List UInt8
def Unq.say (u : Unq) (r : Int) : Unq := { u with said := u.said ++ Lib.encodeRune r, st := 1 }
def Unq.to (u : Unq) (x : Int) : Unq := { u with st := x }
def stepFirst (u : Unq) (r : Int) : Option Unq := if r = 34 ∨ r = 39 then some { u with st := 1, q := r } else none
def stepInside (u : Unq) (r : Int) : Option Unq :=
  if r = 10 ∨ r = 13 then none else if r = u.q then some (u.to 5) else if r = 92 then some (u.to 2) else some (u.say r)
def stepEscaped (u : Unq) (r : Int) : Option Unq :=
  if r = 110 then some (u.say 10) else if r = 116 then some (u.say 9) else if r = 34 ∨ r = 39 ∨ r = 92 then some (u.say r) else if r = 117 then some (u.to 3) else none
def stepNumbered (u : Unq) (r : Int) : Option Unq := if r = 123 then some { u with st := 4, num := 0, dig := 0 } else none
def stepCounting (u : Unq) (r : Int) : Option Unq :=
  if r = 125 then (if u.dig = 0 ∨ Lib.validRune (u.num : Int) = false then none else some (u.say u.num))
  else if hexv r < 0 ∨ u.dig = 6 then none else some { u with num := u.num * 16 + (hexv r).toNat, dig := u.dig + 1 }
def stepU (u : Unq) (r : Int) : Option Unq :=
  if u.st = 0 then stepFirst u r else if u.st = 1 then stepInside u r else if u.st = 2 then stepEscaped u r else if u.st = 3 then stepNumbered u r else if u.st = 4 then stepCounting u r else none

def Unq.ok (u : Unq) : Prop := 0 ≤ u.st ∧ u.st ≤ 5 ∧ u.dig ≤ 6 ∧ u.num < 16 ^ u.dig

theorem ownsRowF_slice {w : World} {B : Nat} {e : TypeId} {v : Value} {n : Nat} {xs : List Value} (h : w.ownsRowF B e 1 v n xs) : ∃ a c, v = .slice a n c := by
  rcases h.2 with ⟨rfl, rfl⟩ | ⟨g, cap, cur, fz, rfl, _⟩
  all_goals
    exact ⟨_, _, rfl⟩
theorem row_ne {w : World} {b : Nat} {e : TypeId} {v : Value} {n : Nat} {xs : List Value} (h : w.ownsRowF (b + 1) e 1 v n xs) : v.ownBlock ≠ some b := by
  intro hv
  have := (h.lt b hv).1
  omega
theorem row_setCell {w : World} {b i : Nat} {e : TypeId} {v x : Value} {n : Nat} {xs : List Value} (h : w.ownsRowF (b + 1) e 1 v n xs) : (w.setCell ⟨b, i, none⟩ x).ownsRowF (b + 1) e 1 v n xs :=
  h.kept (row := some b) ⟨rfl, rfl, rfl, by simp [World.setCell], fun k _ hk => Below.heap_setCell _ _ _ _ (fun e => hk (by simp [e]))⟩ (Or.inr (row_ne h))

theorem keep_set {b i : Nat} {w w' : World} {x : Value} (h : Lib.OthersKept 5 (some b) w w') : Lib.OthersKept 5 (some b) w (w'.setCell ⟨b, i, none⟩ x) := h.setCell _ rfl _
theorem below_set {b i : Nat} {w w' : World} {x : Value} (h : Below b w w') : Below b w (w'.setCell ⟨b, i, none⟩ x) := h.setCell (Nat.le_refl _) _

end Go.Proofs.YtpnljjcdlkjfhaaGreatDoor
namespace Go.Proofs.YtpnljjcdlkjfhaaGreatDoor
open Go.RowKit

theorem pow_dig (n : Nat) (h : n ≤ 5) : 16 ^ n ≤ 1048576 := Nat.le_trans (Nat.pow_le_pow_right (by omega) h) (by decide)
theorem pow_dig6 (n : Nat) (h : n ≤ 6) : 16 ^ n ≤ 16777216 := Nat.le_trans (Nat.pow_le_pow_right (by omega) h) (by decide)

end Go.Proofs.YtpnljjcdlkjfhaaGreatDoor
namespace Go.Proofs.YtpnljjcdlkjfhaaGreatDoor
open Go.RowKit

/-- How many bytes have been read that nothing stands for yet. -/
def Unq.pend (u : Unq) : Nat := if u.st = 2 then 1 else if u.st = 3 then 2 else if u.st = 4 then 3 + u.dig else 0
theorem enc_small (r : Int) (h0 : 0 ≤ r) (h1 : r ≤ 127) : (Lib.encodeRune r).length = 1 := by rw [Lib.encodeRune, Lib.encodeRuneZ_one h0 h1]; rfl
theorem stepU_ok (u u' : Unq) (r : Int) (n : Nat) (h : stepU u r = some u') (hok : u.ok) (hn1 : 1 ≤ n) (hrn : (Lib.encodeRune r).length ≤ n) : u'.ok ∧ u'.said.length + u'.pend ≤ u.said.length + u.pend + n := by
  obtain ⟨h0, h5, hd, hn⟩ := hok
  have hsay : ∀ x : Int, (Lib.encodeRune x).length ≤ u.pend + n → (u.say x).ok ∧ (u.say x).said.length + (u.say x).pend ≤ u.said.length + u.pend + n := by
    intro x hx
    refine ⟨⟨by simp [Unq.say], by simp [Unq.say], hd, hn⟩, ?_⟩
    have hp : (u.say x).pend = 0 := by simp [Unq.pend, Unq.say]
    rw [hp]
    simp only [Unq.say, List.length_append]
    omega
  unfold stepU at h
  split at h
  · unfold stepFirst at h
    split at h
    · cases h
      refine ⟨⟨by simp, by simp, hd, hn⟩, ?_⟩
      simp [Unq.pend]
      omega
    · cases h
  · split at h
    · rename_i hs1
      have hp : u.pend = 0 := by simp [Unq.pend, hs1]
      unfold stepInside at h
      repeat' split at h
      all_goals cases h
      · refine ⟨⟨by simp [Unq.to], by simp [Unq.to], hd, hn⟩, ?_⟩
        simp [Unq.pend, Unq.to]
        omega
      · refine ⟨⟨by simp [Unq.to], by simp [Unq.to], hd, hn⟩, ?_⟩
        rw [hp]
        simp [Unq.pend, Unq.to]
        omega
      · exact hsay r (by omega)
    · split at h
      · rename_i hs2
        have hp : u.pend = 1 := by simp [Unq.pend, hs2]
        unfold stepEscaped at h
        repeat' split at h
        all_goals cases h
        · exact hsay 10 (by rw [enc_small 10 (by omega) (by omega)]; omega)
        · exact hsay 9 (by rw [enc_small 9 (by omega) (by omega)]; omega)
        · exact hsay r (by omega)
        · refine ⟨⟨by simp [Unq.to], by simp [Unq.to], hd, hn⟩, ?_⟩
          rw [hp]
          simp [Unq.pend, Unq.to]
          omega
      · split at h
        · rename_i hs3
          have hp : u.pend = 2 := by simp [Unq.pend, hs3]
          unfold stepNumbered at h
          split at h
          · cases h
            refine ⟨⟨by simp, by simp, by simp, by simp⟩, ?_⟩
            rw [hp]
            simp [Unq.pend]
            omega
          · cases h
        · split at h
          · rename_i hs4
            have hp : u.pend = 3 + u.dig := by simp [Unq.pend, hs4]
            unfold stepCounting at h
            split at h
            · split at h
              · cases h
              · rename_i hnn
                cases h
                have hl := Lib.runeCells_le (u.num : Int)
                rw [Lib.runeCells_length] at hl
                exact hsay _ (by omega)
            · split at h
              · cases h
              · rename_i hne
                cases h
                have hr := hexv_range r
                refine ⟨⟨h0, h5, ?_, ?_⟩, ?_⟩
                · show u.dig + 1 ≤ 6
                  omega
                · show u.num * 16 + (hexv r).toNat < 16 ^ (u.dig + 1)
                  rw [Nat.pow_succ]
                  omega
                · rw [hp]
                  simp [Unq.pend, hs4]
                  omega
          · cases h

def Unq.start : Unq := { st := 0, q := 0, num := 0, dig := 0, said := [] }
/-- What the runes of a text say from a state of the reader on; the place is that of the first of them. -/
def unqS : List (Nat × List UInt8) → Unq → Nat → Option (List UInt8 × Nat)
  | [], _, _ => none
  | x :: xs, u, pos => if strayP x then none else match stepU u x.1 with
    | none => none
    | some u' => if u'.st = 5 then some (u'.said, pos + 1) else unqS xs u' (pos + x.2.length)
/-- What a text in quotes says, and how many bytes it has. -/
def unquoteL (l : List UInt8) : Option (List UInt8 × Nat) := unqS (scan l) Unq.start 0
def unqRes : Option (List UInt8 × Nat) → Ending
  | none => .returned (.tuple #[.string ⟨#[]⟩, .int .i64 0, .int .i64 10])
  | some x => .returned (.tuple #[.string ⟨x.1.toArray⟩, .int .i64 (x.2 : Int), .int .i64 0])

theorem unqS_stray (l : List UInt8) (h : l ≠ []) (hs : strayL l = true) (u : Unq) (pos : Nat) : unqS (scan l) u pos = none := by
  rw [scan_cons l h, unqS, ← strayL_eq l h, hs]; rfl
theorem unqS_none (l : List UInt8) (h : l ≠ []) (hs : strayL l = false) (u : Unq) (pos : Nat) (hu : stepU u (decL l).1 = none) : unqS (scan l) u pos = none := by
  rw [scan_cons l h, unqS, ← strayL_eq l h, hs, hu]; rfl
theorem unqS_end (l : List UInt8) (h : l ≠ []) (hs : strayL l = false) (u u' : Unq) (pos : Nat) (hu : stepU u (decL l).1 = some u') (h5 : u'.st = 5) : unqS (scan l) u pos = some (u'.said, pos + 1) := by
  rw [scan_cons l h, unqS, ← strayL_eq l h, hs, hu]
  simp [h5]
theorem unqS_more (l : List UInt8) (h : l ≠ []) (hs : strayL l = false) (u u' : Unq) (pos : Nat) (hu : stepU u (decL l).1 = some u') (h5 : u'.st ≠ 5) : unqS (scan l) u pos = unqS (scan (l.drop (decL l).2)) u' (pos + (decL l).2) := by
  have := decL_le l h
  rw [scan_cons l h, unqS, ← strayL_eq l h, hs, hu]
  simp [h5, Nat.min_eq_left this]

theorem conv_row {w : World} {B n c : Nat} {a : Option Addr} {l : List UInt8} (h : w.ownsRowF B 5 1 (.slice a n c) n (Lib.byteCells l)) :
    (convert 57 9 (.slice a n c)).run Tryz.prog w = .ok (.string ⟨l.toArray⟩) w := by
  have hn : n = l.length := by have := h.1; rw [Lib.byteCells_length] at this; omega
  rcases h.2 with ⟨hv, h0⟩ | ⟨g, cap, cur, fz, hv, _⟩
  · cases hv
    have hl : l = [] := List.eq_nil_of_length_eq_zero (by omega)
    subst hl
    exact run_convert_bytes_nil w 57 5 Tryz.underlying57 Tryz.underlying5 _ _ 9 Tryz.underlying9
  · cases hv
    subst hn
    refine run_convert_bytes_back w _ _ 5 _ _ l Tryz.underlying57 Tryz.underlying5 Tryz.underlying9 ?_
    intro j hj
    refine h.cells (g := g) rfl j _ ?_
    simp [Lib.byteCells, List.getElem?_eq_getElem hj]

end Go.Proofs.YtpnljjcdlkjfhaaGreatDoor
namespace Go.Proofs.YtpnljjcdlkjfhaaGreatDoor
set_option linter.unusedVariables false

abbrev Bs := List UInt8
/-- kind, text, number. -/
abbrev Tk := Int × Bs × Int

/-- how many bytes the sign has with which a name may begin. -/
def begL (l : Bs) (sc : Bool) : Nat :=
  if l = [] then 0
  else if atL l 0 = 95 ∨ (sc = true ∧ atL l 0 = 36) then 1
  else if strayL l = false ∧ letterB (decL l).1 = true then (decL l).2 else 0
def digC (c : Nat) : Bool := decide (48 ≤ c) && decide (c ≤ 57)
/-- .. with which it may go on. -/
def onL (l : Bs) (sc : Bool) : Nat := if begL l sc ≠ 0 then begL l sc else if l ≠ [] ∧ digC (atL l 0) = true then 1 else 0
def tailF : Nat → Bs → Bool → Nat
  | 0, _, _ => 0
  | f + 1, l, sc => if onL l sc = 0 then 0 else onL l sc + tailF f (l.drop (onL l sc)) sc
def tailL (l : Bs) (sc : Bool) : Nat := tailF l.length l sc
def nameL (l : Bs) (sc : Bool) : Nat := if begL l sc = 0 then 0 else begL l sc + tailL (l.drop (begL l sc)) sc

def isBl (c : UInt8) : Bool := c == 9 || c == 10 || c == 13 || c == 32
/-- up to ahead of the next line's end. -/
def lineL : Bs → Nat
  | [] => 0
  | c :: r => if c = 10 then 0 else lineL r + 1
/-- of a note, behind its beginning: up to its end, with it. -/
def noteL : Bs → Option Nat
  | [] => none
  | c :: r => if c = 42 ∧ r.head? = some 47 then some 2 else (noteL r).map (· + 1)
def pastF : Nat → Bs → Nat × Bool
  | 0, _ => (0, true)
  | f + 1, [] => (0, true)
  | f + 1, c :: r =>
    if isBl c then ((pastF f r).1 + 1, (pastF f r).2)
    else if c = 47 ∧ r.head? = some 47 then ((pastF f (r.drop (lineL r))).1 + (lineL r + 1), (pastF f (r.drop (lineL r))).2)
    else if c = 47 ∧ r.head? = some 42 then
      match noteL r.tail with
      | none => (0, false)
      | some k => ((pastF f (r.tail.drop k)).1 + (k + 2), (pastF f (r.tail.drop k)).2)
    else (0, true)
def pastL (l : Bs) : Nat × Bool := pastF l.length l

def wordsL : List Bs := [[99, 108, 97, 115, 115], [99, 111, 110, 115, 116], [100, 101, 102, 97, 117, 108, 116], [101, 108, 115, 101], [101, 120, 112, 111, 114, 116], [102, 97, 108, 115, 101], [102, 117, 110, 99, 116, 105, 111, 110], [105, 102], [105, 109, 112, 111, 114, 116], [108, 101, 116], [110, 101, 119], [110, 117, 108, 108], [114, 101, 116, 117, 114, 110], [116, 104, 105, 115], [116, 104, 114, 111, 119], [116, 114, 117, 101], [116, 121, 112, 101, 111, 102], [117, 110, 100, 101, 102, 105, 110, 101, 100], [119, 104, 105, 108, 101]]
def wordB (l : Bs) : Bool := wordsL.contains l
def signsL : List Bs := [[61, 61, 61], [33, 61, 61], [60, 61], [62, 61], [38, 38], [124, 124], [61, 62], [123], [125], [40], [41], [91], [93], [59], [44], [58], [46], [63], [61], [43], [45], [42], [47], [37], [60], [62], [33], [124]]

def digsL (l : Bs) : Bs := l.takeWhile fun c => digC c.toNat
def decN (n : Nat) (l : Bs) : Nat := l.foldl (fun n c => 10 * n + (c.toNat - 48)) n
abbrev Nx := Except Nat (Tk × Nat)
def numbL (l : Bs) (sc : Bool) : Nx :=
  if (1 < (digsL l).length ∧ atL l 0 = 48) ∨ 0 < begL (l.drop (digsL l).length) sc then .error 40
  else if 9007199254740991 < decN 0 (digsL l) then .error 41
  else .ok ((3, [], (decN 0 (digsL l) : Int)), (digsL l).length)
def unqNx (l : Bs) : Nx := match unquoteL l with
  | some x => .ok ((4, x.1, 0), x.2)
  | none => .error 40
def signNx (l : Bs) : Nx := match signsL.find? (fun g => g.isPrefixOf l) with
  | some g => .ok ((5, g, 0), g.length)
  | none => .error 40
def nextL (l : Bs) (sc : Bool) : Nx :=
  if 0 < nameL l sc then .ok (((if wordB (l.take (nameL l sc)) then 2 else 1), l.take (nameL l sc), 0), nameL l sc)
  else if digC (atL l 0) = true then numbL l sc
  else if atL l 0 = 34 ∨ atL l 0 = 39 then unqNx l else signNx l

/-- all tokens, each with its place; or the place and the error. -/
abbrev Lx := Except (Nat × Nat) (List (Tk × Nat))
def consL (x : Tk × Nat) : Lx → Lx
  | .error e => .error e
  | .ok ts => .ok (x :: ts)
def lexF : Nat → Nat → Bs → Bool → Lx
  | 0, _, _, _ => .ok []
  | f + 1, a, l, sc =>
    if (pastL l).2 = false then .error (a + (pastL l).1, 40)
    else if l.drop (pastL l).1 = [] then .ok []
    else match nextL (l.drop (pastL l).1) sc with
      | .error e => .error (a + (pastL l).1, e)
      | .ok x => consL (x.1, a + (pastL l).1) (lexF f (a + (pastL l).1 + x.2) (l.drop ((pastL l).1 + x.2)) sc)
def lexL (a : Nat) (l : Bs) (sc : Bool) : Lx := lexF (l.length + 1) a l sc

/-- a number's digits. -/
def digitsF : Nat → Nat → Bs
  | 0, _ => []
  | f + 1, n => if 9 < n then digitsF f (n / 10) ++ [UInt8.ofNat (48 + n % 10)] else [UInt8.ofNat (48 + n % 10)]
def digitsL (n : Nat) : Bs := digitsF (n + 1) n

/-- a token's text. -/
def rawL (t : Tk) : Option Bs :=
  if t.1 = 3 then (if t.2.2 < 0 then none else some (digitsL t.2.2.toNat))
  else if t.1 = 4 then some (quoteL t.2.1) else some t.2.1
def isTk (s : Bs) (t : Tk) : Bool := match lexL 0 s true with
  | .ok [x] => x.1 == t
  | _ => false
def textL (t : Tk) : Option Bs := match rawL t with
  | none => none
  | some s => if isTk s t then some s else none
def textsL : List Tk → Option (List Bs)
  | [] => some []
  | t :: ts => match textL t with
    | none => none
    | some s => match textsL ts with
      | none => none
      | some ss => some (s :: ss)
def joinB : List Bs → Bs
  | [] => []
  | [s] => s
  | s :: ss => s ++ 32 :: joinB ss
def showL (ts : List Tk) : Bs := match textsL ts with
  | none => []
  | some ss => joinB ss

theorem begL_le (l : Bs) (sc : Bool) : begL l sc ≤ l.length := by
  unfold begL
  split
  · exact Nat.zero_le _
  · rename_i h
    have h1 := decL_le l h
    have h0 : 1 ≤ l.length := by cases l <;> simp_all
    split
    · exact h0
    · split
      · exact h1
      · exact Nat.zero_le _
theorem onL_le (l : Bs) (sc : Bool) : onL l sc ≤ l.length := by
  have h := begL_le l sc
  unfold onL
  split
  · exact h
  · split
    · rename_i h1
      have h0 : 1 ≤ l.length := by cases l <;> simp_all
      exact h0
    · exact Nat.zero_le _
theorem tailF_more : ∀ (f g : Nat) (l : Bs) (sc : Bool), l.length ≤ f → l.length ≤ g → tailF f l sc = tailF g l sc
  | 0, g, l, sc, hf, _ => by
    have hl : l = [] := List.eq_nil_of_length_eq_zero (by omega)
    subst hl
    cases g <;> simp [tailF, onL, begL]
  | f + 1, 0, l, sc, _, hg => by
    have hl : l = [] := List.eq_nil_of_length_eq_zero (by omega)
    subst hl
    simp [tailF, onL, begL]
  | f + 1, g + 1, l, sc, hf, hg => by
    have h := onL_le l sc
    unfold tailF
    split
    · rfl
    · rw [tailF_more f g _ sc (by simp; omega) (by simp; omega)]
theorem tailL_eq (l : Bs) (sc : Bool) : tailL l sc = if onL l sc = 0 then 0 else onL l sc + tailL (l.drop (onL l sc)) sc := by
  have h := onL_le l sc
  unfold tailL
  cases hl : l.length with
  | zero =>
    have : l = [] := List.eq_nil_of_length_eq_zero hl
    subst this
    simp [tailF, onL, begL]
  | succ n =>
    conv => lhs; unfold tailF
    split
    · rfl
    · rw [tailF_more n (l.drop (onL l sc)).length _ sc (by simp; omega) (Nat.le_refl _)]
theorem tailF_le : ∀ (f : Nat) (l : Bs) (sc : Bool), tailF f l sc ≤ l.length
  | 0, l, sc => Nat.zero_le _
  | f + 1, l, sc => by
    have h := onL_le l sc
    have ih := tailF_le f (l.drop (onL l sc)) sc
    simp only [List.length_drop] at ih
    unfold tailF
    split
    · exact Nat.zero_le _
    · omega
theorem tailL_le (l : Bs) (sc : Bool) : tailL l sc ≤ l.length := tailF_le _ _ _
theorem nameL_le (l : Bs) (sc : Bool) : nameL l sc ≤ l.length := by
  have h := begL_le l sc
  have h2 := tailL_le (l.drop (begL l sc)) sc
  simp only [List.length_drop] at h2
  unfold nameL
  split
  · exact Nat.zero_le _
  · omega

theorem lineL_le : ∀ l : Bs, lineL l ≤ l.length
  | [] => Nat.le_refl _
  | c :: r => by
    have := lineL_le r
    unfold lineL
    split <;> simp
    omega
theorem noteL_le : ∀ (l : Bs) (k : Nat), noteL l = some k → 2 ≤ k ∧ k ≤ l.length
  | c :: r, k, h => by
    unfold noteL at h
    split at h
    · rename_i hc
      cases h
      cases r with
      | nil => simp at hc
      | cons d r => simp
    · cases hn : noteL r with
      | none => rw [hn] at h; cases h
      | some j =>
        rw [hn] at h
        have := noteL_le r j hn
        cases h
        simp
        omega
theorem pastF_more : ∀ (f g : Nat) (l : Bs), l.length ≤ f → l.length ≤ g → pastF f l = pastF g l
  | 0, g, l, hf, _ => by
    have hl : l = [] := List.eq_nil_of_length_eq_zero (by omega)
    subst hl
    cases g <;> rfl
  | f + 1, 0, l, _, hg => by
    have hl : l = [] := List.eq_nil_of_length_eq_zero (by omega)
    subst hl
    rfl
  | f + 1, g + 1, [], _, _ => rfl
  | f + 1, g + 1, c :: r, hf, hg => by
    simp only [List.length_cons] at hf hg
    unfold pastF
    rw [pastF_more f g r (by omega) (by omega), pastF_more f g (r.drop (lineL r)) (by simp; omega) (by simp; omega)]
    have h2 : ∀ k, pastF f (r.tail.drop k) = pastF g (r.tail.drop k) := fun k => pastF_more f g _ (by simp; omega) (by simp; omega)
    simp only [h2]
theorem pastL_nil : pastL [] = (0, true) := rfl
theorem pastL_cons (c : UInt8) (r : Bs) : pastL (c :: r) =
    if isBl c then ((pastL r).1 + 1, (pastL r).2)
    else if c = 47 ∧ r.head? = some 47 then ((pastL (r.drop (lineL r))).1 + (lineL r + 1), (pastL (r.drop (lineL r))).2)
    else if c = 47 ∧ r.head? = some 42 then
      match noteL r.tail with
      | none => (0, false)
      | some k => ((pastL (r.tail.drop k)).1 + (k + 2), (pastL (r.tail.drop k)).2)
    else (0, true) := by
  unfold pastL
  simp only [List.length_cons]
  conv => lhs; unfold pastF
  have h2 : ∀ k, pastF r.length (r.tail.drop k) = pastF (r.tail.drop k).length (r.tail.drop k) := fun k => pastF_more _ _ _ (by simp only [List.length_drop, List.length_tail]; omega) (Nat.le_refl _)
  rw [pastF_more r.length (r.drop (lineL r)).length (r.drop (lineL r)) (by simp) (Nat.le_refl _)]
  simp only [h2]
theorem pastF_le : ∀ (f : Nat) (l : Bs), (pastF f l).1 ≤ l.length
  | 0, l => Nat.zero_le _
  | f + 1, [] => Nat.le_refl _
  | f + 1, c :: r => by
    have h1 := pastF_le f r
    have h2 := pastF_le f (r.drop (lineL r))
    have h3 := lineL_le r
    simp only [List.length_drop] at h2
    unfold pastF
    split
    · simp; omega
    · split
      · simp; omega
      · split
        · split
          · exact Nat.zero_le _
          · rename_i k hk
            have h4 := noteL_le _ _ hk
            have h5 := pastF_le f (r.tail.drop k)
            cases r with
            | nil => simp [noteL] at hk
            | cons d r =>
              simp only [List.tail_cons, List.length_drop, List.length_cons] at h4 h5 ⊢
              omega
        · exact Nat.zero_le _
theorem pastL_le (l : Bs) : (pastL l).1 ≤ l.length := pastF_le _ _

end Go.Proofs.YtpnljjcdlkjfhaaGreatDoor
namespace Go.Proofs.YtpnljjcdlkjfhaaGreatDoor
open Go.RowKit
set_option linter.unusedVariables false

theorem byteI (s : ByteArray) (k : Nat) (h : k < s.size) : ((s[k].toNat : Nat) : Int) = ((atL s.data.toList k : Nat) : Int) := by rw [byte_at s k h]
theorem empty_iff {s : ByteArray} (h : s.data.toList = []) : s.toList.isEmpty = true := by rw [Lib.toList_data, h]; rfl
theorem empty_not {s : ByteArray} (h : s.data.toList ≠ []) : s.toList.isEmpty = false := by
  rw [Lib.toList_data]
  cases hl : s.data.toList with
  | nil => exact absurd hl h
  | cons _ _ => rfl
theorem pos_of {s : ByteArray} (h : s.data.toList ≠ []) : 0 < s.size := by rw [Lib.size_eq]; exact List.length_pos_iff.2 h
theorem int_eqb {a b : Int} (h : a ≠ b) : (a == b) = false := by simpa using h

theorem begL_some (l : Bs) (sc : Bool) (h : l ≠ []) : begL l sc = if atL l 0 = 95 ∨ (sc = true ∧ atL l 0 = 36) then 1 else if strayL l = false ∧ letterB (decL l).1 = true then (decL l).2 else 0 := by
  unfold begL
  rw [if_neg h]

set_option maxHeartbeats 2000000 in
theorem begins_any (s : ByteArray) (sc : Bool) (w : World) (hs : s.size ≤ maxLen) : Calls Tryz.prog 239 #[.string s, .bool sc] w fun e w' => e = .returned (.int .i64 (begL s.data.toList sc : Nat)) ∧ w' = w := by
  by_cases h0 : s.data.toList = []
  · have c1 := empty_iff h0
    have HB : Hid (begL s.data.toList sc = 0) := by show _ = _; rw [h0]; rfl
    clear h0
    go_enter Tryz.func239, Tryz.ntmps239
    go_wp2
    go_ret
    exact ⟨by rw [HB.out]; rfl, rfl⟩
  · have c1 := empty_not h0
    have hpos := pos_of h0
    have hx := byteI s 0 hpos
    have hbs := begL_some s.data.toList sc h0
    by_cases h1 : atL s.data.toList 0 = 95
    · have HB : Hid (begL s.data.toList sc = 1) := by show _ = _; rw [hbs, if_pos (.inl h1)]
      rw [h1] at hx
      clear h0 hbs
      go_enter Tryz.func239, Tryz.ntmps239
      go_wp2
      go_ret
      exact ⟨by rw [HB.out]; rfl, rfl⟩
    · have c2 : (((s[0].toNat : Nat) : Int) == 95) = false := int_eqb (by rw [hx]; omega)
      by_cases h2 : sc = true ∧ atL s.data.toList 0 = 36
      · have HB : Hid (begL s.data.toList sc = 1) := by show _ = _; rw [hbs, if_pos (.inr h2)]
        obtain ⟨rfl, h2⟩ := h2
        rw [h2] at hx
        clear h0 hbs h1 c2
        go_enter Tryz.func239, Tryz.ntmps239
        go_wp2
        go_ret
        exact ⟨by rw [HB.out]; rfl, rfl⟩
      · rw [if_neg (fun h => h.elim h1 h2)] at hbs
        have c3 : sc = false ∨ (((s[0].toNat : Nat) : Int) == 36) = false := by
          cases sc
          · exact .inl rfl
          · exact .inr (int_eqb (by rw [hx]; have : atL s.data.toList 0 ≠ 36 := fun e => h2 ⟨rfl, e⟩; omega))
        have hh := fun W => head_any s W hpos hs
        clear hx h1 h2 h0
        cases hst : strayL s.data.toList
        · have e1 : headL s.data.toList = (((decL s.data.toList).2 : Int), ((decL s.data.toList).1 : Int)) := by unfold headL; rw [hst]; rfl
          rw [e1] at hh
          have hge : (0 : Int) ≤ ((decL s.data.toList).1 : Int) := by omega
          cases hl : letterB ((decL s.data.toList).1 : Int)
          · have HB : Hid (begL s.data.toList sc = 0) := by show _ = _; rw [hbs, if_neg (fun h => by rw [hl] at h; cases h.2)]
            clear hbs e1 hst
            generalize ((decL s.data.toList).1 : Int) = r at *
            generalize ((decL s.data.toList).2 : Int) = n at *
            rcases c3 with rfl | c3
            · go_enter Tryz.func239, Tryz.ntmps239
              go_wp2_with (first
                | (go_at_call 39; refine (hh _).mono ?_; rintro e W ⟨rfl, rfl⟩)
                | (go_at_call 40; refine (refLetter_any _ _).mono ?_; rintro e W ⟨rfl, rfl⟩; rw [hl]))
              go_ret
              exact ⟨by rw [HB.out]; rfl, rfl⟩
            · go_enter Tryz.func239, Tryz.ntmps239
              go_wp2_with (first
                | (go_at_call 39; refine (hh _).mono ?_; rintro e W ⟨rfl, rfl⟩)
                | (go_at_call 40; refine (refLetter_any _ _).mono ?_; rintro e W ⟨rfl, rfl⟩; rw [hl]))
              all_goals (go_ret; exact ⟨by rw [HB.out]; rfl, rfl⟩)
          · have HB : Hid ((begL s.data.toList sc : Int) = ((decL s.data.toList).2 : Int)) := by show _ = _; rw [hbs, if_pos ⟨hst, hl⟩]
            clear hbs e1 hst
            generalize ((decL s.data.toList).1 : Int) = r at *
            generalize ((decL s.data.toList).2 : Int) = n at *
            rcases c3 with rfl | c3
            · go_enter Tryz.func239, Tryz.ntmps239
              go_wp2_with (first
                | (go_at_call 39; refine (hh _).mono ?_; rintro e W ⟨rfl, rfl⟩)
                | (go_at_call 40; refine (refLetter_any _ _).mono ?_; rintro e W ⟨rfl, rfl⟩; rw [hl]))
              go_ret
              exact ⟨by rw [HB.out]; rfl, rfl⟩
            · go_enter Tryz.func239, Tryz.ntmps239
              go_wp2_with (first
                | (go_at_call 39; refine (hh _).mono ?_; rintro e W ⟨rfl, rfl⟩)
                | (go_at_call 40; refine (refLetter_any _ _).mono ?_; rintro e W ⟨rfl, rfl⟩; rw [hl]))
              all_goals (go_ret; exact ⟨by rw [HB.out]; rfl, rfl⟩)
        · have e1 : headL s.data.toList = (1, -1) := by unfold headL; rw [hst]; rfl
          rw [e1] at hh
          have HB : Hid (begL s.data.toList sc = 0) := by show _ = _; rw [hbs, if_neg (fun h => by rw [hst] at h; cases h.1)]
          clear hbs e1 hst
          rcases c3 with rfl | c3
          · go_enter Tryz.func239, Tryz.ntmps239
            go_wp2_with (go_at_call 39; refine (hh _).mono ?_; rintro e W ⟨rfl, rfl⟩)
            go_ret
            exact ⟨by rw [HB.out]; rfl, rfl⟩
          · go_enter Tryz.func239, Tryz.ntmps239
            go_wp2_with (go_at_call 39; refine (hh _).mono ?_; rintro e W ⟨rfl, rfl⟩)
            all_goals (go_ret; exact ⟨by rw [HB.out]; rfl, rfl⟩)

theorem rdigit_any (r : Nat) (w : World) : Calls Tryz.prog 215 #[.int .u8 (r : Int)] w fun e w' => e = .returned (.bool (digC r)) ∧ w' = w := by
  go_enter Tryz.func215, Tryz.ntmps215
  go_wp2
  all_goals go_ret
  all_goals (refine ⟨ret_bool ?_, rfl⟩; rw [Bool.eq_iff_iff]; simp [digC] <;> omega)

end Go.Proofs.YtpnljjcdlkjfhaaGreatDoor
