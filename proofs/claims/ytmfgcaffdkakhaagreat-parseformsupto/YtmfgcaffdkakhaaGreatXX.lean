/- Own text. Tokens of a source, as rows of bytes: names, numbers, texts, signs, blanks and notes; all tokens of a text. The document's reader of names, blanks and notes. The document's reader of names, and of blanks and notes. The document's words, signs and numbers. The document's next token. The document's next token: numbers, texts. The document's next token: signs, and all together. The document's reader of blanks and notes. All tokens: how many bytes a token has; the list unfolds. The document's Lex. The document's text of a token. The document's text of a token, by its kind. A token is the same whatever stands behind it, if nothing there goes on with it. A token is the same whatever stands behind it, if nothing there goes on with it: texts, signs, all. What follows of all tokens: scripts, places. Blanks and notes where a token begins change nothing but places. Blanks and notes where a token begins change nothing but places: the theorem. What a text in quotes says is runes. Tokens that may be are read as they are shown; what is read may be. How many bytes the texts of a source's tokens have together, and what is shown of them. -/
import Derived.Test.YtmfgcaffdkakhaaGreatRN
import Derived.WalkKit
import Derived.WalkSmall
import Derived.Laws.OwnMore
import Derived.OwnWalk
import Derived.Below
import Derived.Deep.RegionHeld3
import Derived.BigQuiet
import Derived.Maps.AppendAt
namespace Go.Proofs.YtmfgcaffdkakhaaGreat
set_option linter.unusedVariables false

abbrev Bs := List UInt8
/-- kind, text, number. -/
abbrev Tk := Int × Bs × Int

/-- how many bytes the sign has with which a name may begin. -/
def begL (l : Bs) (sc : Bool) : Nat :=
  if l = [] then 0
  else if atL l 0 = 95 ∨ (sc = true ∧ atL l 0 = 36) then 1
  else if strayL l = false ∧ letterB (decL l).1 = true then (decL l).2 else 0
def digC (c : Nat) : Bool := decide (48 ≤ c) && decide (c ≤ 57)
/-- .. with which it may go on. -/
def onL (l : Bs) (sc : Bool) : Nat := if begL l sc ≠ 0 then begL l sc else if l ≠ [] ∧ digC (atL l 0) = true then 1 else 0
def tailF : Nat → Bs → Bool → Nat
  | 0, _, _ => 0
  | f + 1, l, sc => if onL l sc = 0 then 0 else onL l sc + tailF f (l.drop (onL l sc)) sc
def tailL (l : Bs) (sc : Bool) : Nat := tailF l.length l sc
def nameL (l : Bs) (sc : Bool) : Nat := if begL l sc = 0 then 0 else begL l sc + tailL (l.drop (begL l sc)) sc

def isBl (c : UInt8) : Bool := c == 9 || c == 10 || c == 13 || c == 32
/-- up to ahead of the next line's end. -/
def lineL : Bs → Nat
  | [] => 0
  | c :: r => if c = 10 then 0 else lineL r + 1
/-- of a note, behind its beginning: up to its end, with it. -/
def noteL : Bs → Option Nat
  | [] => none
  | c :: r => if c = 42 ∧ r.head? = some 47 then some 2 else (noteL r).map (· + 1)
def pastF : Nat → Bs → Nat × Bool
  | 0, _ => (0, true)
  | f + 1, [] => (0, true)
  | f + 1, c :: r =>
    if isBl c then ((pastF f r).1 + 1, (pastF f r).2)
    else if c = 47 ∧ r.head? = some 47 then ((pastF f (r.drop (lineL r))).1 + (lineL r + 1), (pastF f (r.drop (lineL r))).2)
    else if c = 47 ∧ r.head? = some 42 then
      match noteL r.tail with
      | none => (0, false)
      | some k => ((pastF f (r.tail.drop k)).1 + (k + 2), (pastF f (r.tail.drop k)).2)
    else (0, true)
def pastL (l : Bs) : Nat × Bool := pastF l.length l

def wordsL : List Bs := [[99, 108, 97, 115, 115], [99, 111, 110, 115, 116], [100, 101, 102, 97, 117, 108, 116], [101, 108, 115, 101], [101, 120, 112, 111, 114, 116], [102, 97, 108, 115, 101], [102, 117, 110, 99, 116, 105, 111, 110], [105, 102], [105, 109, 112, 111, 114, 116], [108, 101, 116], [110, 101, 119], [110, 117, 108, 108], [114, 101, 116, 117, 114, 110], [116, 104, 105, 115], [116, 104, 114, 111, 119], [116, 114, 117, 101], [116, 121, 112, 101, 111, 102], [117, 110, 100, 101, 102, 105, 110, 101, 100], [119, 104, 105, 108, 101]]
def wordB (l : Bs) : Bool := wordsL.contains l
def signsL : List Bs := [[61, 61, 61], [33, 61, 61], [60, 61], [62, 61], [38, 38], [124, 124], [61, 62], [123], [125], [40], [41], [91], [93], [59], [44], [58], [46], [63], [61], [43], [45], [42], [47], [37], [60], [62], [33], [124]]

def digsL (l : Bs) : Bs := l.takeWhile fun c => digC c.toNat
def decN (n : Nat) (l : Bs) : Nat := l.foldl (fun n c => 10 * n + (c.toNat - 48)) n
abbrev Nx := Except Nat (Tk × Nat)
def numbL (l : Bs) (sc : Bool) : Nx :=
  if (1 < (digsL l).length ∧ atL l 0 = 48) ∨ 0 < begL (l.drop (digsL l).length) sc then .error 40
  else if 9007199254740991 < decN 0 (digsL l) then .error 41
  else .ok ((3, [], (decN 0 (digsL l) : Int)), (digsL l).length)
def unqNx (l : Bs) : Nx := match unquoteL l with
  | some x => .ok ((4, x.1, 0), x.2)
  | none => .error 40
def signNx (l : Bs) : Nx := match signsL.find? (fun g => g.isPrefixOf l) with
  | some g => .ok ((5, g, 0), g.length)
  | none => .error 40
def nextL (l : Bs) (sc : Bool) : Nx :=
  if 0 < nameL l sc then .ok (((if wordB (l.take (nameL l sc)) then 2 else 1), l.take (nameL l sc), 0), nameL l sc)
  else if digC (atL l 0) = true then numbL l sc
  else if atL l 0 = 34 ∨ atL l 0 = 39 then unqNx l else signNx l

/-- all tokens, each with its place; or the place and the error. -/
abbrev Lx := Except (Nat × Nat) (List (Tk × Nat))
def consL (x : Tk × Nat) : Lx → Lx
  | .error e => .error e
  | .ok ts => .ok (x :: ts)
def lexF : Nat → Nat → Bs → Bool → Lx
  | 0, _, _, _ => .ok []
  | f + 1, a, l, sc =>
    if (pastL l).2 = false then .error (a + (pastL l).1, 40)
    else if l.drop (pastL l).1 = [] then .ok []
    else match nextL (l.drop (pastL l).1) sc with
      | .error e => .error (a + (pastL l).1, e)
      | .ok x => consL (x.1, a + (pastL l).1) (lexF f (a + (pastL l).1 + x.2) (l.drop ((pastL l).1 + x.2)) sc)
def lexL (a : Nat) (l : Bs) (sc : Bool) : Lx := lexF (l.length + 1) a l sc

def isTk (s : Bs) (t : Tk) : Bool := match lexL 0 s true with
  | .ok [x] => x.1 == t
  | _ => false
theorem begL_le (l : Bs) (sc : Bool) : begL l sc ≤ l.length := by
  unfold begL
  split
  · exact Nat.zero_le _
  · rename_i h
    have h1 := decL_le l h
    have h0 : 1 ≤ l.length := by cases l <;> simp_all
    split
    · exact h0
    · split
      · exact h1
      · exact Nat.zero_le _
theorem onL_le (l : Bs) (sc : Bool) : onL l sc ≤ l.length := by
  have h := begL_le l sc
  unfold onL
  split
  · exact h
  · split
    · rename_i h1
      have h0 : 1 ≤ l.length := by cases l <;> simp_all
      exact h0
    · exact Nat.zero_le _
theorem tailF_more : ∀ (f g : Nat) (l : Bs) (sc : Bool), l.length ≤ f → l.length ≤ g → tailF f l sc = tailF g l sc
  | 0, g, l, sc, hf, _ => by
    have hl : l = [] := List.eq_nil_of_length_eq_zero (by omega)
    subst hl
    cases g <;> simp [tailF, onL, begL]
  | f + 1, 0, l, sc, _, hg => by
    have hl : l = [] := List.eq_nil_of_length_eq_zero (by omega)
    subst hl
    simp [tailF, onL, begL]
  | f + 1, g + 1, l, sc, hf, hg => by
    have h := onL_le l sc
    unfold tailF
    split
    · rfl
    · rw [tailF_more f g _ sc (by simp; omega) (by simp; omega)]
theorem tailL_eq (l : Bs) (sc : Bool) : tailL l sc = if onL l sc = 0 then 0 else onL l sc + tailL (l.drop (onL l sc)) sc := by
  have h := onL_le l sc
  unfold tailL
  cases hl : l.length with
  | zero =>
    have : l = [] := List.eq_nil_of_length_eq_zero hl
    subst this
    simp [tailF, onL, begL]
  | succ n =>
    conv => lhs; unfold tailF
    split
    · rfl
    · rw [tailF_more n (l.drop (onL l sc)).length _ sc (by simp; omega) (Nat.le_refl _)]
theorem tailF_le : ∀ (f : Nat) (l : Bs) (sc : Bool), tailF f l sc ≤ l.length
  | 0, l, sc => Nat.zero_le _
  | f + 1, l, sc => by
    have h := onL_le l sc
    have ih := tailF_le f (l.drop (onL l sc)) sc
    simp only [List.length_drop] at ih
    unfold tailF
    split
    · exact Nat.zero_le _
    · omega
theorem tailL_le (l : Bs) (sc : Bool) : tailL l sc ≤ l.length := tailF_le _ _ _
theorem nameL_le (l : Bs) (sc : Bool) : nameL l sc ≤ l.length := by
  have h := begL_le l sc
  have h2 := tailL_le (l.drop (begL l sc)) sc
  simp only [List.length_drop] at h2
  unfold nameL
  split
  · exact Nat.zero_le _
  · omega

theorem lineL_le : ∀ l : Bs, lineL l ≤ l.length
  | [] => Nat.le_refl _
  | c :: r => by
    have := lineL_le r
    unfold lineL
    split <;> simp
    omega
theorem noteL_le : ∀ (l : Bs) (k : Nat), noteL l = some k → 2 ≤ k ∧ k ≤ l.length
  | c :: r, k, h => by
    unfold noteL at h
    split at h
    · rename_i hc
      cases h
      cases r with
      | nil => simp at hc
      | cons d r => simp
    · cases hn : noteL r with
      | none => rw [hn] at h; cases h
      | some j =>
        rw [hn] at h
        have := noteL_le r j hn
        cases h
        simp
        omega
theorem pastF_more : ∀ (f g : Nat) (l : Bs), l.length ≤ f → l.length ≤ g → pastF f l = pastF g l
  | 0, g, l, hf, _ => by
    have hl : l = [] := List.eq_nil_of_length_eq_zero (by omega)
    subst hl
    cases g <;> rfl
  | f + 1, 0, l, _, hg => by
    have hl : l = [] := List.eq_nil_of_length_eq_zero (by omega)
    subst hl
    rfl
  | f + 1, g + 1, [], _, _ => rfl
  | f + 1, g + 1, c :: r, hf, hg => by
    simp only [List.length_cons] at hf hg
    unfold pastF
    rw [pastF_more f g r (by omega) (by omega), pastF_more f g (r.drop (lineL r)) (by simp; omega) (by simp; omega)]
    have h2 : ∀ k, pastF f (r.tail.drop k) = pastF g (r.tail.drop k) := fun k => pastF_more f g _ (by simp; omega) (by simp; omega)
    simp only [h2]
theorem pastL_nil : pastL [] = (0, true) := rfl
theorem pastL_cons (c : UInt8) (r : Bs) : pastL (c :: r) =
    if isBl c then ((pastL r).1 + 1, (pastL r).2)
    else if c = 47 ∧ r.head? = some 47 then ((pastL (r.drop (lineL r))).1 + (lineL r + 1), (pastL (r.drop (lineL r))).2)
    else if c = 47 ∧ r.head? = some 42 then
      match noteL r.tail with
      | none => (0, false)
      | some k => ((pastL (r.tail.drop k)).1 + (k + 2), (pastL (r.tail.drop k)).2)
    else (0, true) := by
  unfold pastL
  simp only [List.length_cons]
  conv => lhs; unfold pastF
  have h2 : ∀ k, pastF r.length (r.tail.drop k) = pastF (r.tail.drop k).length (r.tail.drop k) := fun k => pastF_more _ _ _ (by simp only [List.length_drop, List.length_tail]; omega) (Nat.le_refl _)
  rw [pastF_more r.length (r.drop (lineL r)).length (r.drop (lineL r)) (by simp) (Nat.le_refl _)]
  simp only [h2]
theorem pastF_le : ∀ (f : Nat) (l : Bs), (pastF f l).1 ≤ l.length
  | 0, l => Nat.zero_le _
  | f + 1, [] => Nat.le_refl _
  | f + 1, c :: r => by
    have h1 := pastF_le f r
    have h2 := pastF_le f (r.drop (lineL r))
    have h3 := lineL_le r
    simp only [List.length_drop] at h2
    unfold pastF
    split
    · simp; omega
    · split
      · simp; omega
      · split
        · split
          · exact Nat.zero_le _
          · rename_i k hk
            have h4 := noteL_le _ _ hk
            have h5 := pastF_le f (r.tail.drop k)
            cases r with
            | nil => simp [noteL] at hk
            | cons d r =>
              simp only [List.tail_cons, List.length_drop, List.length_cons] at h4 h5 ⊢
              omega
        · exact Nat.zero_le _
theorem pastL_le (l : Bs) : (pastL l).1 ≤ l.length := pastF_le _ _

end Go.Proofs.YtmfgcaffdkakhaaGreat
namespace Go.Proofs.YtmfgcaffdkakhaaGreat
open Go.RowKit
set_option linter.unusedVariables false

theorem byteI (s : ByteArray) (k : Nat) (h : k < s.size) : ((s[k].toNat : Nat) : Int) = ((atL s.data.toList k : Nat) : Int) := by rw [byte_at s k h]
theorem empty_iff {s : ByteArray} (h : s.data.toList = []) : s.toList.isEmpty = true := by rw [Lib.toList_data, h]; rfl
theorem empty_not {s : ByteArray} (h : s.data.toList ≠ []) : s.toList.isEmpty = false := by
  rw [Lib.toList_data]
  cases hl : s.data.toList with
  | nil => exact absurd hl h
  | cons _ _ => rfl
theorem pos_of {s : ByteArray} (h : s.data.toList ≠ []) : 0 < s.size := by rw [Lib.size_eq]; exact List.length_pos_iff.2 h
theorem int_eqb {a b : Int} (h : a ≠ b) : (a == b) = false := by simpa using h

theorem begL_some (l : Bs) (sc : Bool) (h : l ≠ []) : begL l sc = if atL l 0 = 95 ∨ (sc = true ∧ atL l 0 = 36) then 1 else if strayL l = false ∧ letterB (decL l).1 = true then (decL l).2 else 0 := by
  unfold begL
  rw [if_neg h]

set_option maxHeartbeats 2000000 in
theorem begins_any (s : ByteArray) (sc : Bool) (w : World) (hs : s.size ≤ maxLen) : Calls Tryz.prog 79 #[.string s, .bool sc] w fun e w' => e = .returned (.int .i64 (begL s.data.toList sc : Nat)) ∧ w' = w := by
  by_cases h0 : s.data.toList = []
  · have c1 := empty_iff h0
    have HB : Hid (begL s.data.toList sc = 0) := by show _ = _; rw [h0]; rfl
    clear h0
    go_enter Tryz.func79, Tryz.ntmps79
    go_wp2
    go_ret
    exact ⟨by rw [HB.out]; rfl, rfl⟩
  · have c1 := empty_not h0
    have hpos := pos_of h0
    have hx := byteI s 0 hpos
    have hbs := begL_some s.data.toList sc h0
    by_cases h1 : atL s.data.toList 0 = 95
    · have HB : Hid (begL s.data.toList sc = 1) := by show _ = _; rw [hbs, if_pos (.inl h1)]
      rw [h1] at hx
      clear h0 hbs
      go_enter Tryz.func79, Tryz.ntmps79
      go_wp2
      go_ret
      exact ⟨by rw [HB.out]; rfl, rfl⟩
    · have c2 : (((s[0].toNat : Nat) : Int) == 95) = false := int_eqb (by rw [hx]; omega)
      by_cases h2 : sc = true ∧ atL s.data.toList 0 = 36
      · have HB : Hid (begL s.data.toList sc = 1) := by show _ = _; rw [hbs, if_pos (.inr h2)]
        obtain ⟨rfl, h2⟩ := h2
        rw [h2] at hx
        clear h0 hbs h1 c2
        go_enter Tryz.func79, Tryz.ntmps79
        go_wp2
        go_ret
        exact ⟨by rw [HB.out]; rfl, rfl⟩
      · rw [if_neg (fun h => h.elim h1 h2)] at hbs
        have c3 : sc = false ∨ (((s[0].toNat : Nat) : Int) == 36) = false := by
          cases sc
          · exact .inl rfl
          · exact .inr (int_eqb (by rw [hx]; have : atL s.data.toList 0 ≠ 36 := fun e => h2 ⟨rfl, e⟩; omega))
        have hh := fun W => head_any s W hpos hs
        clear hx h1 h2 h0
        cases hst : strayL s.data.toList
        · have e1 : headL s.data.toList = (((decL s.data.toList).2 : Int), ((decL s.data.toList).1 : Int)) := by unfold headL; rw [hst]; rfl
          rw [e1] at hh
          have hge : (0 : Int) ≤ ((decL s.data.toList).1 : Int) := by omega
          cases hl : letterB ((decL s.data.toList).1 : Int)
          · have HB : Hid (begL s.data.toList sc = 0) := by show _ = _; rw [hbs, if_neg (fun h => by rw [hl] at h; cases h.2)]
            clear hbs e1 hst
            generalize ((decL s.data.toList).1 : Int) = r at *
            generalize ((decL s.data.toList).2 : Int) = n at *
            rcases c3 with rfl | c3
            · go_enter Tryz.func79, Tryz.ntmps79
              go_wp2_with (first
                | (go_at_call 81; refine (hh _).mono ?_; rintro e W ⟨rfl, rfl⟩)
                | (go_at_call 97; refine (refLetter_any _ _).mono ?_; rintro e W ⟨rfl, rfl⟩; rw [hl]))
              go_ret
              exact ⟨by rw [HB.out]; rfl, rfl⟩
            · go_enter Tryz.func79, Tryz.ntmps79
              go_wp2_with (first
                | (go_at_call 81; refine (hh _).mono ?_; rintro e W ⟨rfl, rfl⟩)
                | (go_at_call 97; refine (refLetter_any _ _).mono ?_; rintro e W ⟨rfl, rfl⟩; rw [hl]))
              all_goals (go_ret; exact ⟨by rw [HB.out]; rfl, rfl⟩)
          · have HB : Hid ((begL s.data.toList sc : Int) = ((decL s.data.toList).2 : Int)) := by show _ = _; rw [hbs, if_pos ⟨hst, hl⟩]
            clear hbs e1 hst
            generalize ((decL s.data.toList).1 : Int) = r at *
            generalize ((decL s.data.toList).2 : Int) = n at *
            rcases c3 with rfl | c3
            · go_enter Tryz.func79, Tryz.ntmps79
              go_wp2_with (first
                | (go_at_call 81; refine (hh _).mono ?_; rintro e W ⟨rfl, rfl⟩)
                | (go_at_call 97; refine (refLetter_any _ _).mono ?_; rintro e W ⟨rfl, rfl⟩; rw [hl]))
              go_ret
              exact ⟨by rw [HB.out]; rfl, rfl⟩
            · go_enter Tryz.func79, Tryz.ntmps79
              go_wp2_with (first
                | (go_at_call 81; refine (hh _).mono ?_; rintro e W ⟨rfl, rfl⟩)
                | (go_at_call 97; refine (refLetter_any _ _).mono ?_; rintro e W ⟨rfl, rfl⟩; rw [hl]))
              all_goals (go_ret; exact ⟨by rw [HB.out]; rfl, rfl⟩)
        · have e1 : headL s.data.toList = (1, -1) := by unfold headL; rw [hst]; rfl
          rw [e1] at hh
          have HB : Hid (begL s.data.toList sc = 0) := by show _ = _; rw [hbs, if_neg (fun h => by rw [hst] at h; cases h.1)]
          clear hbs e1 hst
          rcases c3 with rfl | c3
          · go_enter Tryz.func79, Tryz.ntmps79
            go_wp2_with (go_at_call 81; refine (hh _).mono ?_; rintro e W ⟨rfl, rfl⟩)
            go_ret
            exact ⟨by rw [HB.out]; rfl, rfl⟩
          · go_enter Tryz.func79, Tryz.ntmps79
            go_wp2_with (go_at_call 81; refine (hh _).mono ?_; rintro e W ⟨rfl, rfl⟩)
            all_goals (go_ret; exact ⟨by rw [HB.out]; rfl, rfl⟩)

theorem rdigit_any (r : Nat) (w : World) : Calls Tryz.prog 53 #[.int .u8 (r : Int)] w fun e w' => e = .returned (.bool (digC r)) ∧ w' = w := by
  go_enter Tryz.func53, Tryz.ntmps53
  go_wp2
  all_goals go_ret
  all_goals (refine ⟨ret_bool ?_, rfl⟩; rw [Bool.eq_iff_iff]; simp [digC] <;> omega)

end Go.Proofs.YtmfgcaffdkakhaaGreat
namespace Go.Proofs.YtmfgcaffdkakhaaGreat
open Go.RowKit
set_option linter.unusedVariables false

theorem drop_run (s : ByteArray) (n : Nat) (h : n ≤ s.size) (W : World) : (Instr.slice 9 (.string s) (some (.int .i64 (n : Int))) none none).run Tryz.prog W = .ok (.string (s.extract n s.size)) W := by
  have h1 : (n : Int) ≤ (s.size : Int) := by omega
  go_simp
theorem atL_drop (l : Bs) (n k : Nat) : atL (l.drop n) k = atL l (n + k) := by
  unfold atL
  rw [List.getD_eq_getElem?_getD, List.getElem?_drop, ← List.getD_eq_getElem?_getD]

set_option maxHeartbeats 2000000 in
theorem name_any (s : ByteArray) (sc : Bool) (w : World) (hs : s.size ≤ 140737488355328) : Calls Tryz.prog 51 #[.string s, .bool sc] w fun e w' => e = .returned (.int .i64 (nameL s.data.toList sc : Nat)) ∧ w' = w := by
  have hm : s.size ≤ maxLen := by unfold maxLen; omega
  have hb0 := fun W => begins_any s sc W hm
  by_cases h0 : begL s.data.toList sc = 0
  · have HN : Hid (nameL s.data.toList sc = 0) := by show _ = _; unfold nameL; rw [if_pos h0]
    rw [h0] at hb0
    clear h0
    go_enter Tryz.func51, Tryz.ntmps51
    go_wp2_with (go_at_call 79; refine (hb0 _).mono ?_; rintro e W ⟨rfl, rfl⟩)
    go_ret
    exact ⟨by rw [HN.out]; rfl, rfl⟩
  · have hbl := begL_le s.data.toList sc
    rw [← Lib.size_eq] at hbl
    have HN : Hid (nameL s.data.toList sc = begL s.data.toList sc + tailL (s.data.toList.drop (begL s.data.toList sc)) sc) := by show _ = _; unfold nameL; rw [if_neg h0]
    obtain ⟨b, hb⟩ : ∃ b, b = begL s.data.toList sc := ⟨_, rfl⟩
    rw [← hb] at hb0 h0 hbl HN
    clear hb
    have hbi : ((b : Int) == 0) = false := int_eqb (by omega)
    go_enter Tryz.func51, Tryz.ntmps51
    go_wp2_with (go_at_call 79; refine (hb0 _).mono ?_; rintro e W ⟨rfl, rfl⟩)
    go_loopw [5] (fun v5 W' => ∃ k : Nat, v5 = .int .i64 k ∧ b ≤ k ∧ k ≤ s.size ∧ W' = W ∧ Hid (nameL s.data.toList sc = k + tailL (s.data.toList.drop k) sc)) (fun v5 _ => s.size - (intOf v5).toNat)
    case atStart => exact ⟨b, rfl, Nat.le_refl _, hbl, rfl, HN⟩
    case round =>
      obtain ⟨k, rfl, hbk, hk, rfl, hh⟩ := hrel
      by_cases hkl : k < s.size
      · have hkl2 : (k : Int) < (s.size : Int) := by omega
        have hsl := drop_run s k (by omega)
        have hxl : (s.extract k s.size).data.toList = s.data.toList.drop k := drop_extract s k
        have hxs : (s.extract k s.size).size ≤ maxLen := by rw [Lib.size_eq, hxl, List.length_drop, ← Lib.size_eq]; omega
        have hby := byteI s k hkl
        have hat : atL s.data.toList k = atL (s.data.toList.drop k) 0 := by rw [atL_drop]; rfl
        rw [hat] at hby
        have hne : s.data.toList.drop k ≠ [] := drop_ne s k hkl
        have hon := onL_le (s.data.toList.drop k) sc
        rw [List.length_drop, ← Lib.size_eq] at hon
        have hte := tailL_eq (s.data.toList.drop k) sc
        have hb1 := fun W => begins_any (s.extract k s.size) sc W hxs
        rw [hxl] at hb1
        have hod : onL (s.data.toList.drop k) sc = if begL (s.data.toList.drop k) sc ≠ 0 then begL (s.data.toList.drop k) sc else if digC (atL (s.data.toList.drop k) 0) = true then 1 else 0 := by
          unfold onL
          simp [hne]
        have hd1 := fun W => rdigit_any (atL (s.data.toList.drop k) 0) W
        obtain ⟨o, ho⟩ : ∃ o, o = onL (s.data.toList.drop k) sc := ⟨_, rfl⟩
        have HH : Hid (nameL s.data.toList sc = k + (if o = 0 then 0 else o + tailL (s.data.toList.drop (k + o)) sc)) := by
          show _ = _
          rw [hh.out, hte, ← ho, List.drop_drop]
        rw [← ho] at hod hon
        clear hte hh ho hat hne hxl hxs
        generalize atL (s.data.toList.drop k) 0 = c at *
        generalize s.extract k s.size = X at *
        by_cases g0 : begL (s.data.toList.drop k) sc = 0
        · rw [g0] at hb1 hod
          cases gd : digC c
          · have o0 : o = 0 := by rw [hod, gd]; rfl
            rw [gd] at hd1
            have HR : Hid (nameL s.data.toList sc = k) := by show _ = _; rw [HH.out, if_pos o0]; rfl
            clear hod HH g0
            go_wp2_with (first
              | (go_at_call 79; refine (hb1 _).mono ?_; rintro e W ⟨rfl, rfl⟩)
              | (go_at_call 53; refine (hd1 _).mono ?_; rintro e W ⟨rfl, rfl⟩))
            go_ret
            exact ⟨ret_int (by rw [HR.out]), rfl⟩
          · have o1 : o = 1 := by rw [hod, gd]; rfl
            rw [gd] at hd1
            have HR : Hid (nameL s.data.toList sc = (k + 1) + tailL (s.data.toList.drop (k + 1)) sc) := by show _ = _; rw [HH.out, o1]; simp; omega
            clear hod HH g0
            go_wp2_with (first
              | (go_at_call 79; refine (hb1 _).mono ?_; rintro e W ⟨rfl, rfl⟩)
              | (go_at_call 53; refine (hd1 _).mono ?_; rintro e W ⟨rfl, rfl⟩))
            go_roundw
            case rel => exact ⟨k + 1, by simp, by omega, by omega, by simp, HR⟩
            case measure => simp [intOf]; omega
        · have o1 : o = begL (s.data.toList.drop k) sc := by rw [hod, if_pos g0]
          rw [← o1] at hb1 g0
          have gi : ((o : Int) == 0) = false := int_eqb (by omega)
          have HR : Hid (nameL s.data.toList sc = (k + o) + tailL (s.data.toList.drop (k + o)) sc) := by show _ = _; rw [HH.out, if_neg g0]; omega
          clear hod HH o1
          go_wp2_with (go_at_call 79; refine (hb1 _).mono ?_; rintro e W ⟨rfl, rfl⟩)
          go_roundw
          case rel => exact ⟨k + o, by simp, by omega, by omega, by simp, HR⟩
          case measure => simp [intOf]; omega
      · have hkl2 : ¬ (k : Int) < (s.size : Int) := by omega
        have HR : Hid (nameL s.data.toList sc = k) := by
          show _ = _
          rw [hh.out, drop_end s k hkl]
          rfl
        clear hh
        go_wp2
        go_ret
        exact ⟨ret_int (by rw [HR.out]), rfl⟩

/-- blanks and notes, step by step: at i. -/
theorem past_blank {l : Bs} {i : Nat} {c : UInt8} (hi : l[i]? = some c) (h : isBl c = true) : pastL (l.drop i) = ((pastL (l.drop (i + 1))).1 + 1, (pastL (l.drop (i + 1))).2) := by
  obtain ⟨hl, e⟩ := List.getElem?_eq_some_iff.1 hi
  rw [List.drop_eq_getElem_cons hl, pastL_cons, e, if_pos h]
theorem past_line {l : Bs} {i : Nat} (hi : l[i]? = some 47) (h2 : l[i + 1]? = some 47) : pastL (l.drop i) = ((pastL (l.drop (i + lineL (l.drop i)))).1 + lineL (l.drop i), (pastL (l.drop (i + lineL (l.drop i)))).2) := by
  obtain ⟨hl, e⟩ := List.getElem?_eq_some_iff.1 hi
  have hh : (l.drop (i + 1)).head? = some 47 := by rw [List.head?_drop]; exact h2
  have hll : lineL (l.drop i) = lineL (l.drop (i + 1)) + 1 := by
    rw [List.drop_eq_getElem_cons hl, e]
    simp [lineL]
  rw [hll]
  conv => lhs; rw [List.drop_eq_getElem_cons hl, pastL_cons, e]
  rw [if_neg (by decide), if_pos ⟨rfl, hh⟩, List.drop_drop]
  rw [show i + 1 + lineL (l.drop (i + 1)) = i + (lineL (l.drop (i + 1)) + 1) from by omega]
theorem past_note {l : Bs} {i : Nat} (hi : l[i]? = some 47) (h2 : l[i + 1]? = some 42) : pastL (l.drop i) = match noteL (l.drop (i + 2)) with
    | none => (0, false)
    | some k => ((pastL (l.drop (i + 2 + k))).1 + (k + 2), (pastL (l.drop (i + 2 + k))).2) := by
  obtain ⟨hl, e⟩ := List.getElem?_eq_some_iff.1 hi
  have hh : (l.drop (i + 1)).head? = some 42 := by rw [List.head?_drop]; exact h2
  have ht : (l.drop (i + 1)).tail = l.drop (i + 2) := by rw [List.tail_drop]
  conv => lhs; rw [List.drop_eq_getElem_cons hl, pastL_cons, e]
  rw [if_neg (by decide), if_neg (by rw [hh]; simp), if_pos ⟨rfl, hh⟩, ht]
  simp only [List.drop_drop] <;> cases noteL (l.drop (i + 2)) <;> rfl
theorem past_stop {l : Bs} {i : Nat} {c : UInt8} (hi : l[i]? = some c) (h : isBl c = false) (h1 : ¬ (c = 47 ∧ l[i + 1]? = some 47)) (h2 : ¬ (c = 47 ∧ l[i + 1]? = some 42)) : pastL (l.drop i) = (0, true) := by
  obtain ⟨hl, e⟩ := List.getElem?_eq_some_iff.1 hi
  rw [List.drop_eq_getElem_cons hl, pastL_cons, e, if_neg (by rw [h]; simp), List.head?_drop, if_neg h1, if_neg h2]

theorem lineL_go {l : Bs} {j : Nat} {c : UInt8} (hj : l[j]? = some c) (hc : c ≠ 10) : lineL (l.drop j) = lineL (l.drop (j + 1)) + 1 := by
  obtain ⟨hl, e⟩ := List.getElem?_eq_some_iff.1 hj
  rw [List.drop_eq_getElem_cons hl, e]
  simp [lineL, hc]
theorem lineL_end {l : Bs} {j : Nat} (h : l[j]? = some 10 ∨ l.length ≤ j) : lineL (l.drop j) = 0 := by
  rcases h with h | h
  · obtain ⟨hl, e⟩ := List.getElem?_eq_some_iff.1 h
    rw [List.drop_eq_getElem_cons hl, e]
    simp [lineL]
  · rw [List.drop_eq_nil_of_le h]; rfl
theorem noteL_go {l : Bs} {j : Nat} {c : UInt8} (hj : l[j]? = some c) (hc : ¬ (c = 42 ∧ l[j + 1]? = some 47)) : noteL (l.drop j) = (noteL (l.drop (j + 1))).map (· + 1) := by
  obtain ⟨hl, e⟩ := List.getElem?_eq_some_iff.1 hj
  rw [List.drop_eq_getElem_cons hl, e]
  simp only [noteL, List.head?_drop, if_neg hc]
theorem noteL_hit {l : Bs} {j : Nat} (hj : l[j]? = some 42) (hc : l[j + 1]? = some 47) : noteL (l.drop j) = some 2 := by
  obtain ⟨hl, e⟩ := List.getElem?_eq_some_iff.1 hj
  rw [List.drop_eq_getElem_cons hl, e]
  simp [noteL, List.head?_drop, hc]
theorem noteL_out {l : Bs} {j : Nat} (h : l.length ≤ j + 1) : noteL (l.drop j) = none := by
  cases hd : l.drop j with
  | nil => rfl
  | cons c r =>
    have : r = [] := by
      have h1 := congrArg List.length hd
      simp at h1
      exact List.eq_nil_of_length_eq_zero (by omega)
    subst this
    simp [noteL]

theorem byteO (s : ByteArray) (k : Nat) (h : k < s.size) : s.data.toList[k]? = some s[k] := by
  rw [Array.getElem?_toList]
  exact Array.getElem?_eq_getElem h
theorem u8_eq {c : UInt8} {n : Nat} (hn : n < 256) (h : ((c.toNat : Nat) : Int) = (n : Int)) : c = UInt8.ofNat n := by
  apply UInt8.toNat_inj.1
  rw [UInt8.toNat_ofNat']
  omega
theorem isBl_of (c : UInt8) : isBl c = (decide (((c.toNat : Nat) : Int) = 9) || decide (((c.toNat : Nat) : Int) = 10) || decide (((c.toNat : Nat) : Int) = 13) || decide (((c.toNat : Nat) : Int) = 32)) := by
  have h : ∀ k : Fin 256, isBl (UInt8.ofNat k.val) = (decide ((((UInt8.ofNat k.val).toNat : Nat) : Int) = 9) || decide ((((UInt8.ofNat k.val).toNat : Nat) : Int) = 10) || decide ((((UInt8.ofNat k.val).toNat : Nat) : Int) = 13) || decide ((((UInt8.ofNat k.val).toNat : Nat) : Int) = 32)) := by decide +kernel
  have := h ⟨c.toNat, c.toNat_lt⟩
  simpa using this

end Go.Proofs.YtmfgcaffdkakhaaGreat
namespace Go.Proofs.YtmfgcaffdkakhaaGreat
open Go.RowKit
set_option linter.unusedVariables false

/-- texts as cells. -/
def textCells (l : List Bs) : List Value := l.map fun b => .string ⟨b.toArray⟩
theorem text_at {w : World} {base g n c : Nat} {l : List Bs} (h : w.ownsRow base 9 1 (.slice (some ⟨g, 0, none⟩) n c) n (textCells l)) {i : Nat} {q : Bs} (hi : l[i]? = some q) (hn : i < n) : w.cell? ⟨g, i, none⟩ = some (.string ⟨q.toArray⟩) := by
  rw [h.cellAt i (by omega)]
  simp [textCells, hi]

set_option maxRecDepth 100000 in
theorem words_any (w : World) : Calls Tryz.prog 80 #[] w fun e w' => e = .returned (.slice (some ⟨w.heap.size, 0, none⟩) 19 19) ∧ w'.ownsRow w.heap.size 9 1 (.slice (some ⟨w.heap.size, 0, none⟩) 19 19) 19 (textCells wordsL) ∧ Below w.heap.size w w' := by
  go_enter Tryz.func80, Tryz.ntmps80
  go_wp2
  go_ret
  exact ⟨rfl, World.ownsRow_lit w _ 19 (Nat.le_refl _) (by unfold maxLen; decide) rfl, (Below.refl _ w).alloc (Nat.le_refl _) _⟩
set_option maxRecDepth 100000 in
theorem signs_any (w : World) : Calls Tryz.prog 56 #[] w fun e w' => e = .returned (.slice (some ⟨w.heap.size, 0, none⟩) 28 28) ∧ w'.ownsRow w.heap.size 9 1 (.slice (some ⟨w.heap.size, 0, none⟩) 28 28) 28 (textCells signsL) ∧ Below w.heap.size w w' := by
  go_enter Tryz.func56, Tryz.ntmps56
  go_wp2
  go_ret
  exact ⟨rfl, World.ownsRow_lit w _ 28 (Nat.le_refl _) (by unfold maxLen; decide) rfl, (Below.refl _ w).alloc (Nat.le_refl _) _⟩

theorem eq_bytes (q : Bs) (s : ByteArray) : ((⟨q.toArray⟩ : ByteArray).toList == s.toList) = (q == s.data.toList) := by rw [Lib.toList_data, Lib.toList_data]

set_option maxHeartbeats 2000000 in
theorem word_any (s : ByteArray) (w : World) : Calls Tryz.prog 52 #[.string s] w fun e w' => e = .returned (.bool (wordB s.data.toList)) ∧ Below w.heap.size w w' := by
  have hl19 : wordsL.length = 19 := rfl
  go_enter Tryz.func52, Tryz.ntmps52
  go_wp2_with (go_at_call 80; refine (words_any _).mono ?_; rintro e W ⟨rfl, ho, hb⟩)
  go_loopw [4] (fun v4 W' => ∃ k : Nat, v4 = .int .i64 k ∧ k ≤ 19 ∧ W' = W ∧ Hid (∀ q ∈ wordsL.take k, q ≠ s.data.toList)) (fun v4 _ => 19 - (intOf v4).toNat)
  case atStart => exact ⟨0, rfl, by omega, rfl, by intro q hq; simp at hq⟩
  case round =>
    obtain ⟨k, rfl, hk, rfl, hh⟩ := hrel
    by_cases hkl : k < 19
    · have hk2 : (k : Int) < 19 := by omega
      obtain ⟨q, hq⟩ : ∃ q, wordsL[k]? = some q := ⟨_, List.getElem?_eq_getElem (by rw [hl19]; exact hkl)⟩
      have hc := text_at ho hq hkl
      have heq := eq_bytes q s
      have HQ : Hid (wordsL[k]? = some q) := hq
      clear hq
      generalize (⟨q.toArray⟩ : ByteArray) = Q at *
      cases he : (q == s.data.toList)
      · rw [he] at heq
        have hne : q ≠ s.data.toList := by simpa using he
        have hh2 : Hid (∀ x ∈ wordsL.take (k + 1), x ≠ s.data.toList) := by
          intro x hx
          rw [List.take_add_one, HQ.out] at hx
          rcases List.mem_append.1 hx with hx | hx
          · exact hh.out x hx
          · rw [show x = q from by simpa using hx]; exact hne
        clear hh he hne
        go_wp2
        go_roundw
        case rel => exact ⟨k + 1, by simp, by omega, by simp, hh2⟩
        case measure => simp [intOf]; omega
      · rw [he] at heq
        have hm : Hid (wordB s.data.toList = true) := by
          have h1 : q = s.data.toList := by simpa using he
          have h2 := List.mem_of_getElem? HQ.out
          rw [h1] at h2
          show wordsL.contains s.data.toList = _
          simpa using h2
        clear hh he
        go_wp2
        go_ret
        exact ⟨ret_bool hm.out.symm, hb⟩
    · have hk2 : ¬ (k : Int) < 19 := by omega
      have hm : Hid (wordB s.data.toList = false) := by
        have h1 := hh.out
        rw [List.take_of_length_le (by rw [hl19]; omega)] at h1
        show wordsL.contains s.data.toList = _
        have : s.data.toList ∉ wordsL := fun hm => h1 _ hm rfl
        simpa using this
      clear hh
      go_wp2
      go_ret
      exact ⟨ret_bool hm.out.symm, hb⟩

theorem digsL_at {l : Bs} {k : Nat} (hk : k ≤ l.length) (h1 : ∀ j, j < k → digC (atL l j) = true) (h2 : k = l.length ∨ digC (atL l k) = false) : digsL l = l.take k := by
  induction k generalizing l with
  | zero =>
    cases l with
    | nil => rfl
    | cons c r =>
      have : digC c.toNat = false := by
        rcases h2 with h | h
        · simp at h
        · simpa [atL] using h
      simp [digsL, this]
  | succ k ih =>
    cases l with
    | nil => simp at hk
    | cons c r =>
      have h0 : digC c.toNat = true := by simpa [atL] using h1 0 (by omega)
      have := ih (l := r) (by simpa using hk) (fun j hj => by simpa [atL] using h1 (j + 1) (by omega)) (by
        rcases h2 with h | h
        · exact .inl (by simpa using h)
        · exact .inr (by simpa [atL] using h))
      unfold digsL at this ⊢
      simp only [List.takeWhile_cons, h0, if_true, List.take_succ_cons, this]
theorem decN_succ (l : Bs) (k : Nat) (hk : k < l.length) : decN 0 (l.take (k + 1)) = 10 * decN 0 (l.take k) + (atL l k - 48) := by
  unfold decN atL
  rw [List.take_add_one, List.getElem?_eq_getElem hk, List.foldl_append]
  simp [List.getD, List.getElem?_eq_getElem hk]

def numbRes : Nx → Ending
  | .ok x => .returned (.tuple #[.int .i64 x.1.2.2, .int .i64 (x.2 : Nat), .int .i64 0])
  | .error e => .returned (.tuple #[.int .i64 0, .int .i64 0, .int .i64 (e : Nat)])

/-- a number so far. -/
def NumAt (l : Bs) (k : Nat) (n : Nat) (gr : Bool) : Prop := k ≤ l.length ∧ (∀ j, j < k → digC (atL l j) = true) ∧ n ≤ 9007199254740999 ∧ (gr = false → n = decN 0 (l.take k) ∧ n ≤ 9007199254740991) ∧ (gr = true → 9007199254740991 < decN 0 (l.take k))
theorem NumAt.big {l : Bs} {k n : Nat} {gr : Bool} (h : NumAt l k n gr) (hk : k < l.length) (hd : digC (atL l k) = true) (hn : 900719925474099 < n) : NumAt l (k + 1) n true := by
  obtain ⟨h1, h2, h3, h4, h5⟩ := h
  refine ⟨by omega, fun j hj => ?_, h3, fun h => (by cases h), fun _ => ?_⟩
  · by_cases e : j = k
    · subst e; exact hd
    · exact h2 j (by omega)
  · rw [decN_succ l k hk]
    cases gr
    · have := (h4 rfl).1; omega
    · have := h5 rfl; omega
theorem NumAt.go {l : Bs} {k n : Nat} {gr : Bool} (h : NumAt l k n gr) (hk : k < l.length) (hd : digC (atL l k) = true) (hn : ¬ 900719925474099 < n) : NumAt l (k + 1) (10 * n + (atL l k - 48)) (gr || decide (9007199254740991 < 10 * n + (atL l k - 48))) := by
  obtain ⟨h1, h2, h3, h4, h5⟩ := h
  have hd9 : atL l k - 48 ≤ 9 := by unfold digC at hd; simp at hd; omega
  refine ⟨by omega, fun j hj => ?_, by omega, fun h => ?_, fun h => ?_⟩
  · by_cases e : j = k
    · subst e; exact hd
    · exact h2 j (by omega)
  · simp at h
    rw [decN_succ l k hk, ← (h4 h.1).1]
    exact ⟨rfl, by omega⟩
  · rw [decN_succ l k hk]
    cases gr
    · simp at h
      rw [← (h4 rfl).1]
      omega
    · have := h5 rfl; omega

set_option maxHeartbeats 4000000 in
set_option maxRecDepth 100000 in
theorem number_any4 (s : ByteArray) (sc : Bool) (w : World) (hs : s.size ≤ 140737488355328) : Calls Tryz.prog 54 #[.string s, .bool sc] w fun e w' => e = numbRes (numbL s.data.toList sc) ∧ w' = w := by
  have hsl : Hid (s.size = s.data.toList.length) := Lib.size_eq s
  go_enter Tryz.func54, Tryz.ntmps54
  go_wp2
  go_loopw [7, 8, 9] (fun v7 v8 v9 W => ∃ (k n : Nat) (gr : Bool), v7 = .int .i64 k ∧ v8 = .int .i64 n ∧ v9 = .bool gr ∧ k ≤ s.size ∧ n ≤ 9007199254740999 ∧ W = w ∧ Hid (NumAt s.data.toList k n gr)) (fun v7 _ _ _ => s.size - (intOf v7).toNat)
  case atStart => exact ⟨0, 0, false, rfl, rfl, rfl, Nat.zero_le _, by omega, rfl, by omega, fun j hj => by omega, by omega, fun _ => ⟨rfl, by omega⟩, fun h => by cases h⟩
  case round =>
    obtain ⟨k, n, gr, rfl, rfl, rfl, hk, hn, rfl, hh⟩ := hrel
    by_cases hkd : k < s.size ∧ digC (atL s.data.toList k) = true
    · obtain ⟨hkl, hd⟩ := hkd
      have hkl2 : (k : Int) < (s.size : Int) := by omega
      have hby := byteI s k hkl
      have hd1 := fun W => rdigit_any (atL s.data.toList k) W
      rw [hd] at hd1
      have hdd : 48 ≤ atL s.data.toList k ∧ atL s.data.toList k ≤ 57 := by unfold digC at hd; simpa using hd
      by_cases hbig : 900719925474099 < n
      · have hb2 : (900719925474099 : Int) < (n : Int) := by omega
        have HR : Hid (NumAt s.data.toList (k + 1) n true) := hh.out.big (by rw [← hsl.out]; exact hkl) hd hbig
        clear hh hd
        generalize atL s.data.toList k = c at *
        go_wp2_with (go_at_call 53; refine (hd1 _).mono ?_; rintro e W ⟨rfl, rfl⟩)
        go_roundw
        case rel => exact ⟨k + 1, n, true, by simp, rfl, rfl, by omega, hn, by simp, HR⟩
        case measure => simp [intOf]; omega
      · have hb2 : ¬ (900719925474099 : Int) < (n : Int) := by omega
        have HR : Hid (NumAt s.data.toList (k + 1) (10 * n + (atL s.data.toList k - 48)) (gr || decide (9007199254740991 < 10 * n + (atL s.data.toList k - 48)))) := hh.out.go (by rw [← hsl.out]; exact hkl) hd hbig
        clear hh hd
        generalize atL s.data.toList k = c at *
        go_wp2_with (go_at_call 53; refine (hd1 _).mono ?_; rintro e W ⟨rfl, rfl⟩)
        · have hg : gr = true := by assumption
          rw [hg] at HR
          go_roundw
          case rel => exact ⟨k + 1, 10 * n + (c - 48), true, by simp, by congr 1; omega, rfl, by omega, by omega, by simp, HR⟩
          case measure => simp [intOf]; omega
        · have hg : ¬ gr = true := by assumption
          have hg2 : gr = false := by simpa using hg
          rw [hg2] at HR
          go_roundw
          case rel =>
            refine ⟨k + 1, 10 * n + (c - 48), _, by simp, by congr 1; omega, rfl, by omega, by omega, by simp, ?_⟩
            have e : decide ((9007199254740991 : Int) < 10 * (n : Int) + ((c : Int) - 48)) = decide (9007199254740991 < 10 * n + (c - 48)) := by
              rw [Bool.eq_iff_iff]
              simp
              omega
            rw [e]
            exact HR
          case measure => simp [intOf]; omega
    · have hend : digsL s.data.toList = s.data.toList.take k := digsL_at hh.out.1 hh.out.2.1 (by
        by_cases hkl : k < s.size
        · exact .inr (by simpa using fun h => hkd ⟨hkl, h⟩)
        · exact .inl (by rw [← hsl.out]; omega))
      have hdl : (digsL s.data.toList).length = k := by
        rw [hend, List.length_take, ← hsl.out]; omega
      have HV : Hid ((gr = false → n = decN 0 (digsL s.data.toList) ∧ n ≤ 9007199254740991) ∧ (gr = true → 9007199254740991 < decN 0 (digsL s.data.toList))) := by
        rw [hend]; exact ⟨hh.out.2.2.2.1, hh.out.2.2.2.2⟩
      have HL : Hid (numbL s.data.toList sc = if (1 < k ∧ atL s.data.toList 0 = 48) ∨ 0 < begL (s.data.toList.drop k) sc then .error 40 else if 9007199254740991 < decN 0 (digsL s.data.toList) then .error 41 else .ok ((3, [], (decN 0 (digsL s.data.toList) : Int)), k)) := by
        show _ = _
        unfold numbL
        rw [hdl]
      clear hend hdl hh
      have hsr := drop_run s k hk
      have hxl : (s.extract k s.size).data.toList = s.data.toList.drop k := drop_extract s k
      have hb1 := fun W => begins_any (s.extract k s.size) sc W (by unfold maxLen; rw [Lib.size_eq, hxl, List.length_drop, ← Lib.size_eq]; omega)
      rw [hxl] at hb1
      generalize s.extract k s.size = X at *
      have hd1 := fun W => rdigit_any (atL s.data.toList k) W
      have hex : (((k : Int) < (s.size : Int)) ∧ digC (atL s.data.toList k) = false ∧ ∀ h : k < s.size, ((s[k].toNat : Nat) : Int) = ((atL s.data.toList k : Nat) : Int)) ∨ ¬ (k : Int) < (s.size : Int) := by
        by_cases hkl : k < s.size
        · exact .inl ⟨by omega, by simpa using fun h => hkd ⟨hkl, h⟩, fun h => byteI s k h⟩
        · exact .inr (by omega)
      clear hkd
      have hcase : ((1 : Int) < (k : Int) ∧ atL s.data.toList 0 = 48) ∨ ((1 : Int) < (k : Int) ∧ atL s.data.toList 0 ≠ 48) ∨ ¬ (1 : Int) < (k : Int) := by
        by_cases h1 : (1 : Int) < (k : Int)
        · by_cases h2 : atL s.data.toList 0 = 48
          · exact .inl ⟨h1, h2⟩
          · exact .inr (.inl ⟨h1, h2⟩)
        · exact .inr (.inr h1)
      generalize begL (s.data.toList.drop k) sc = bg at *
      rcases hcase with ⟨hk1, h48⟩ | hno
      · have HR : Hid (numbL s.data.toList sc = .error 40) := by
          show _ = _
          rw [HL.out, if_pos (.inl ⟨by omega, h48⟩)]
        have hy0 := byteI s 0 (by omega)
        rw [h48] at hy0
        clear HL HV
        rcases hex with ⟨x1, x2, x3⟩ | x1
        · have x4 := x3 (by omega)
          rw [x2] at hd1
          clear x2 x3
          generalize atL s.data.toList k = c at *
          go_wp2_with (go_at_call 53; refine (hd1 _).mono ?_; rintro e W ⟨rfl, rfl⟩)
          go_ret3
          exact ⟨by rw [HR.out]; rfl, rfl⟩
        · go_wp2
          go_ret3
          exact ⟨by rw [HR.out]; rfl, rfl⟩
      · have hn1 : ¬ (1 < k ∧ atL s.data.toList 0 = 48) := fun h => by
          rcases hno with ⟨_, h2⟩ | h2
          · exact h2 h.2
          · omega
        have hz : ((1 : Int) < (k : Int) ∧ ∀ h : 0 < s.size, (((s[0].toNat : Nat) : Int) == 48) = false) ∨ ¬ (1 : Int) < (k : Int) := by
          rcases hno with ⟨h1, h2⟩ | h2
          · exact .inl ⟨h1, fun h => int_eqb (by rw [byteI s 0 h]; omega)⟩
          · exact .inr h2
        clear hno
        by_cases hbg : 0 < bg
        · have hbg2 : (0 : Int) < (bg : Int) := by omega
          have HR : Hid (numbL s.data.toList sc = .error 40) := by
            show _ = _
            rw [HL.out, if_pos (.inr hbg)]
          clear HL HV
          rcases hz with ⟨z1, z2⟩ | z1
          · have z3 := z2 (by omega)
            clear z2
            rcases hex with ⟨x1, x2, x3⟩ | x1
            · have x4 := x3 (by omega)
              rw [x2] at hd1
              clear x2 x3
              generalize atL s.data.toList k = c at *
              go_wp2_with (first
                | (go_at_call 53; refine (hd1 _).mono ?_; rintro e W ⟨rfl, rfl⟩)
                | (go_at_call 79; refine (hb1 _).mono ?_; rintro e W ⟨rfl, rfl⟩))
              go_ret3
              exact ⟨by rw [HR.out]; rfl, rfl⟩
            · go_wp2_with (go_at_call 79; refine (hb1 _).mono ?_; rintro e W ⟨rfl, rfl⟩)
              go_ret3
              exact ⟨by rw [HR.out]; rfl, rfl⟩
          · rcases hex with ⟨x1, x2, x3⟩ | x1
            · have x4 := x3 (by omega)
              rw [x2] at hd1
              clear x2 x3
              generalize atL s.data.toList k = c at *
              go_wp2_with (first
                | (go_at_call 53; refine (hd1 _).mono ?_; rintro e W ⟨rfl, rfl⟩)
                | (go_at_call 79; refine (hb1 _).mono ?_; rintro e W ⟨rfl, rfl⟩))
              go_ret3
              exact ⟨by rw [HR.out]; rfl, rfl⟩
            · go_wp2_with (go_at_call 79; refine (hb1 _).mono ?_; rintro e W ⟨rfl, rfl⟩)
              go_ret3
              exact ⟨by rw [HR.out]; rfl, rfl⟩
        · have hbg0 : bg = 0 := by omega
          subst hbg0
          have HR : Hid (numbRes (numbL s.data.toList sc) = if gr then .returned (.tuple #[.int .i64 0, .int .i64 0, .int .i64 41]) else .returned (.tuple #[.int .i64 (n : Int), .int .i64 (k : Int), .int .i64 0])) := by
            show _ = _
            rw [HL.out, if_neg (fun h => h.elim hn1 (by omega))]
            cases gr
            · have := HV.out.1 rfl
              rw [if_neg (by omega), ← this.1]
              rfl
            · rw [if_pos (HV.out.2 rfl)]
              rfl
          clear HL HV hn1
          cases gr
          all_goals
            rcases hz with ⟨z1, z2⟩ | z1
            · have z3 := z2 (by omega)
              clear z2
              rcases hex with ⟨x1, x2, x3⟩ | x1
              · have x4 := x3 (by omega)
                rw [x2] at hd1
                clear x2 x3
                generalize atL s.data.toList k = c at *
                go_wp2_with (first
                  | (go_at_call 53; refine (hd1 _).mono ?_; rintro e W ⟨rfl, rfl⟩)
                  | (go_at_call 79; refine (hb1 _).mono ?_; rintro e W ⟨rfl, rfl⟩))
                go_ret3
                exact ⟨by rw [HR.out]; rfl, rfl⟩
              · go_wp2_with (go_at_call 79; refine (hb1 _).mono ?_; rintro e W ⟨rfl, rfl⟩)
                go_ret3
                exact ⟨by rw [HR.out]; rfl, rfl⟩
            · rcases hex with ⟨x1, x2, x3⟩ | x1
              · have x4 := x3 (by omega)
                rw [x2] at hd1
                clear x2 x3
                generalize atL s.data.toList k = c at *
                go_wp2_with (first
                  | (go_at_call 53; refine (hd1 _).mono ?_; rintro e W ⟨rfl, rfl⟩)
                  | (go_at_call 79; refine (hb1 _).mono ?_; rintro e W ⟨rfl, rfl⟩))
                go_ret3
                exact ⟨by rw [HR.out]; rfl, rfl⟩
              · go_wp2_with (go_at_call 79; refine (hb1 _).mono ?_; rintro e W ⟨rfl, rfl⟩)
                go_ret3
                exact ⟨by rw [HR.out]; rfl, rfl⟩

end Go.Proofs.YtmfgcaffdkakhaaGreat
namespace Go.Proofs.YtmfgcaffdkakhaaGreat
open Go.RowKit
set_option linter.unusedVariables false

def tokV (t : Tk) (a : Int) : Value := .agg #[.int .i64 t.1, .string ⟨t.2.1.toArray⟩, .int .i64 t.2.2, .int .i64 a]

theorem four_of {W1 : World} {n : Nat} {a b c d : Value} {t : TypeId} (hb : W1.heap[n]? = some (.cells #[a, b, c, d] t)) :
    (W1.cell? ⟨n, 0, none⟩ = some a ∧ W1.cell? ⟨n, 1, none⟩ = some b ∧ W1.cell? ⟨n, 2, none⟩ = some c ∧ W1.cell? ⟨n, 3, none⟩ = some d) ∧
    (W1.frozen? ⟨n, 0, none⟩ = false ∧ W1.frozen? ⟨n, 1, none⟩ = false ∧ W1.frozen? ⟨n, 2, none⟩ = false ∧ W1.frozen? ⟨n, 3, none⟩ = false) := by
  refine ⟨⟨?_, ?_, ?_, ?_⟩, ?_, ?_, ?_, ?_⟩
  · rw [cell_of_row W1 _ 0 _ _ _ hb]; rfl
  · rw [cell_of_row W1 _ 1 _ _ _ hb]; rfl
  · rw [cell_of_row W1 _ 2 _ _ _ hb]; rfl
  · rw [cell_of_row W1 _ 3 _ _ _ hb]; rfl
  · exact frozen_of_row W1 _ 0 _ _ hb
  · exact frozen_of_row W1 _ 1 _ _ hb
  · exact frozen_of_row W1 _ 2 _ _ hb
  · exact frozen_of_row W1 _ 3 _ _ hb
theorem four_set {W : World} {n : Nat} {a b c d x y z u : Value} {t : TypeId} (hb : W.heap[n]? = some (.cells #[a, b, c, d] t)) :
    ((((W.setCell ⟨n, 0, none⟩ x).setCell ⟨n, 1, none⟩ y).setCell ⟨n, 2, none⟩ z).setCell ⟨n, 3, none⟩ u).heap[n]? = some (.cells #[x, y, z, u] t) := by
  have h1 := heap_setCell_same W n 0 _ t x hb
  have h2 := heap_setCell_same _ n 1 _ t y h1
  have h3 := heap_setCell_same _ n 2 _ t z h2
  have h4 := heap_setCell_same _ n 3 _ t u h3
  exact h4
theorem four_below {B : Nat} {w W : World} {n : Nat} {x y z u : Value} (hb : Below B w W) (hn : B ≤ n) : Below B w ((((W.setCell ⟨n, 0, none⟩ x).setCell ⟨n, 1, none⟩ y).setCell ⟨n, 2, none⟩ z).setCell ⟨n, 3, none⟩ u) :=
  (((hb.setCell hn _).setCell hn _).setCell hn _).setCell hn _
/-- what next hands back. -/
theorem next_res {W : World} {n : Nat} {a b c d : Value} {tmps : Array Value} (hb : W.heap[n]? = some (.cells #[a, b, c, d] 43)) (ht : tmps[4]?.getD undef = .pointer (some ⟨n, 0, none⟩)) :
    (results Tryz.f24 tmps).run Tryz.prog W = .ok (.tuple #[.agg #[a, b, c, d], tmps.getD 5 undef, tmps.getD 6 undef]) W := by
  obtain ⟨⟨c0, c1, c2, c3⟩, _⟩ := four_of hb
  simp [results, Tryz.results24, go_sem, ht, c0, c1, c2, c3]

theorem four_new {w W1 : World} {o : Obj} (hb : Below (w.alloc o).heap.size (w.alloc o) W1) : W1.heap[w.heap.size]? = some o := by
  rw [hb.block _ (by simp)]
  exact heap_alloc_new w o
theorem cut_list (s : ByteArray) (k : Nat) : s.extract 0 k = ⟨(s.data.toList.take k).toArray⟩ := by
  apply ByteArray.ext
  apply Array.toList_inj.1
  rw [ByteArray.data_extract, Array.toList_extract, List.extract_eq_take_drop]
  simp

set_option maxHeartbeats 4000000 in
set_option maxRecDepth 100000 in
theorem next_name (s : ByteArray) (sc : Bool) (w : World) (hs : s.size ≤ 140737488351232) (hn : 0 < nameL s.data.toList sc) : Calls Tryz.prog 24 #[.string s, .bool sc] w fun e w' =>
    e = .returned (.tuple #[tokV ((if wordB (s.data.toList.take (nameL s.data.toList sc)) then 2 else 1), s.data.toList.take (nameL s.data.toList sc), 0) 0, .int .i64 (nameL s.data.toList sc : Nat), .int .i64 0]) ∧ Below w.heap.size w w' := by
  have hname := fun W => name_any s sc W (by omega)
  have hle := nameL_le s.data.toList sc
  rw [← Lib.size_eq] at hle
  have hcl := cut_list s (nameL s.data.toList sc)
  generalize nameL s.data.toList sc = k at *
  have hk2 : (0 : Int) < (k : Int) := by omega
  have hk3 : (k : Int) ≤ (s.size : Int) := by omega
  have hword := fun W => word_any (s.extract 0 k) W
  have hxl : (s.extract 0 k).data.toList = s.data.toList.take k := by rw [hcl]
  rw [hxl] at hword
  have HX : Hid (s.extract 0 k = ⟨(s.data.toList.take k).toArray⟩) := hcl
  clear hcl
  cases hwd : wordB (s.data.toList.take k)
  · rw [hwd] at hword
    go_enter Tryz.func24, Tryz.ntmps24
    go_wp2_with (first
      | (go_at_call 51; refine (hname _).mono ?_; rintro e W ⟨rfl, rfl⟩)
      | (go_at_call 52; refine (hword _).mono ?_; rintro e W1 ⟨rfl, hb1⟩; obtain ⟨⟨c0, c1, c2, c3⟩, f0, f1, f2, f3⟩ := four_of (four_new hb1)))
    refine bodyPost_ret (next_res (four_set (four_new hb1)) rfl) rfl ⟨?_, ?_⟩
    · simp only [tokV, HX.out]; rfl
    · exact four_below (((Below.refl _ w).alloc (Nat.le_refl _) _).trans (hb1.mono (by simp))) (Nat.le_refl _)
  · rw [hwd] at hword
    go_enter Tryz.func24, Tryz.ntmps24
    go_wp2_with (first
      | (go_at_call 51; refine (hname _).mono ?_; rintro e W ⟨rfl, rfl⟩)
      | (go_at_call 52; refine (hword _).mono ?_; rintro e W1 ⟨rfl, hb1⟩; obtain ⟨⟨c0, c1, c2, c3⟩, f0, f1, f2, f3⟩ := four_of (four_new hb1)))
    refine bodyPost_ret (next_res (four_set (four_new hb1)) rfl) rfl ⟨?_, ?_⟩
    · simp only [tokV, HX.out]; rfl
    · exact four_below (((Below.refl _ w).alloc (Nat.le_refl _) _).trans (hb1.mono (by simp))) (Nat.le_refl _)
end Go.Proofs.YtmfgcaffdkakhaaGreat
namespace Go.Proofs.YtmfgcaffdkakhaaGreat
open Go.RowKit
set_option linter.unusedVariables false

def nextRes (n : Nx) (e : Ending) : Prop := match n with
  | .ok x => e = .returned (.tuple #[tokV x.1 0, .int .i64 (x.2 : Nat), .int .i64 0])
  | .error c => ∃ t : Tk, e = .returned (.tuple #[tokV t 0, .int .i64 0, .int .i64 (c : Nat)])

set_option maxHeartbeats 4000000 in
set_option maxRecDepth 100000 in
theorem next_num (s : ByteArray) (sc : Bool) (w : World) (hs : s.size ≤ 140737488351232) (hp : 0 < s.size) (hn : nameL s.data.toList sc = 0) (hd : digC (atL s.data.toList 0) = true) : Calls Tryz.prog 24 #[.string s, .bool sc] w fun e w' =>
    nextRes (numbL s.data.toList sc) e ∧ Below w.heap.size w w' := by
  have hname := fun W => name_any s sc W (by omega)
  rw [hn] at hname
  have hnum := fun W => number_any4 s sc W (by omega)
  have hd1 := fun W => rdigit_any (atL s.data.toList 0) W
  rw [hd] at hd1
  have hby := byteI s 0 hp
  clear hn hd
  generalize atL s.data.toList 0 = c at *
  cases hx : numbL s.data.toList sc with
  | error e0 =>
    rw [hx] at hnum
    simp only [numbRes] at hnum
    clear hx
    go_enter Tryz.func24, Tryz.ntmps24
    go_wp2_with (first
      | (go_at_call 51; refine (hname _).mono ?_; rintro e W ⟨rfl, rfl⟩)
      | (go_at_call 53; refine (hd1 _).mono ?_; rintro e W ⟨rfl, rfl⟩)
      | (go_at_call 54; refine (hnum _).mono ?_; rintro e W ⟨rfl, rfl⟩))
    exact bodyPost_ret (next_res (heap_alloc_new _ _) rfl) rfl ⟨⟨(3, [], 0), rfl⟩, (Below.refl _ w).alloc (Nat.le_refl _) _⟩
  | ok x =>
    rw [hx] at hnum
    simp only [numbRes] at hnum
    have HX : Hid (x.1 = (3, [], x.1.2.2)) := by
      unfold numbL at hx
      split at hx
      · cases hx
      · split at hx
        · cases hx
        · cases hx; rfl
    clear hx
    go_enter Tryz.func24, Tryz.ntmps24
    go_wp2_with (first
      | (go_at_call 51; refine (hname _).mono ?_; rintro e W ⟨rfl, rfl⟩)
      | (go_at_call 53; refine (hd1 _).mono ?_; rintro e W ⟨rfl, rfl⟩)
      | (go_at_call 54; refine (hnum _).mono ?_; rintro e W ⟨rfl, rfl⟩))
    refine bodyPost_ret (next_res (heap_alloc_new _ _) rfl) rfl ⟨?_, (Below.refl _ w).alloc (Nat.le_refl _) _⟩
    show _ = _
    rw [HX.out]
    rfl

set_option maxHeartbeats 4000000 in
set_option maxRecDepth 100000 in
theorem next_text (s : ByteArray) (sc : Bool) (w : World) (hs : s.size ≤ 140737488351232) (hp : 0 < s.size) (hn : nameL s.data.toList sc = 0) (hd : digC (atL s.data.toList 0) = false) (hq : atL s.data.toList 0 = 34 ∨ atL s.data.toList 0 = 39) : Calls Tryz.prog 24 #[.string s, .bool sc] w fun e w' =>
    nextRes (unqNx s.data.toList) e ∧ Below w.heap.size w w' := by
  have hname := fun W => name_any s sc W (by omega)
  rw [hn] at hname
  have hunq := fun W => refUnquote_any s W hs
  have hd1 := fun W => rdigit_any (atL s.data.toList 0) W
  rw [hd] at hd1
  have hby := byteI s 0 hp
  clear hn hd
  cases hx : unquoteL s.data.toList with
  | none =>
    have HN : Hid (unqNx s.data.toList = .error 40) := by show _ = _; unfold unqNx; rw [hx]
    rw [hx] at hunq
    simp only [unqRes] at hunq
    clear hx
    rcases hq with hq | hq
    all_goals
      rw [hq] at hby hd1
      clear hq
      go_enter Tryz.func24, Tryz.ntmps24
      go_wp2_with (first
        | (go_at_call 51; refine (hname _).mono ?_; rintro e W ⟨rfl, rfl⟩)
        | (go_at_call 53; refine (hd1 _).mono ?_; rintro e W ⟨rfl, rfl⟩)
        | (go_at_call 55; refine (hunq _).mono ?_; rintro e W1 ⟨rfl, hb1⟩; obtain ⟨⟨c0, c1, c2, c3⟩, f0, f1, f2, f3⟩ := four_of (four_new hb1)))
      refine bodyPost_ret (next_res (four_set (four_new hb1)) rfl) rfl ⟨by rw [HN.out]; exact ⟨(0, [], 0), rfl⟩, ?_⟩
      exact four_below (((Below.refl _ w).alloc (Nat.le_refl _) _).trans (hb1.mono (by simp))) (Nat.le_refl _)
  | some x =>
    have HN : Hid (unqNx s.data.toList = .ok ((4, x.1, 0), x.2)) := by show _ = _; unfold unqNx; rw [hx]
    rw [hx] at hunq
    simp only [unqRes] at hunq
    clear hx
    rcases hq with hq | hq
    all_goals
      rw [hq] at hby hd1
      clear hq
      go_enter Tryz.func24, Tryz.ntmps24
      go_wp2_with (first
        | (go_at_call 51; refine (hname _).mono ?_; rintro e W ⟨rfl, rfl⟩)
        | (go_at_call 53; refine (hd1 _).mono ?_; rintro e W ⟨rfl, rfl⟩)
        | (go_at_call 55; refine (hunq _).mono ?_; rintro e W1 ⟨rfl, hb1⟩; obtain ⟨⟨c0, c1, c2, c3⟩, f0, f1, f2, f3⟩ := four_of (four_new hb1)))
      refine bodyPost_ret (next_res (four_set (four_new hb1)) rfl) rfl ⟨by rw [HN.out]; rfl, ?_⟩
      exact four_below (((Below.refl _ w).alloc (Nat.le_refl _) _).trans (hb1.mono (by simp))) (Nat.le_refl _)

theorem sign_at {l : Bs} {g : Bs} : g.isPrefixOf l = (decide (g.length ≤ l.length) && (l.take g.length == g)) := by
  rw [Bool.eq_iff_iff, List.isPrefixOf_iff_prefix]
  simp only [Bool.and_eq_true, decide_eq_true_eq, beq_iff_eq]
  constructor
  · rintro ⟨t, ht⟩
    rw [← ht]
    simp
  · rintro ⟨h1, h2⟩
    exact ⟨l.drop g.length, by conv => lhs; lhs; rw [← h2]
                               exact List.take_append_drop _ _⟩
theorem find_step {α : Type} {p : α → Bool} {l : List α} {k : Nat} {x : α} (hk : l[k]? = some x) (h : ∀ y ∈ l.take k, p y = false) (hx : p x = true) : l.find? p = some x := by
  induction l generalizing k with
  | nil => simp at hk
  | cons y r ih =>
    cases k with
    | zero =>
      have : y = x := by simpa using hk
      subst this
      simp [hx]
    | succ k =>
      have h0 := h y (by simp)
      simp only [List.find?_cons, h0]
      exact ih (by simpa using hk) (fun z hz => h z (by simp [hz]))
theorem find_none {α : Type} {p : α → Bool} {l : List α} (h : ∀ y ∈ l, p y = false) : l.find? p = none := by
  rw [List.find?_eq_none]
  intro y hy
  simp [h y hy]

end Go.Proofs.YtmfgcaffdkakhaaGreat
namespace Go.Proofs.YtmfgcaffdkakhaaGreat
open Go.RowKit
set_option linter.unusedVariables false

theorem same_row {w w' : World} {base : Nat} {e : TypeId} {size : Nat} {v : Value} {n : Nat} {xs : List Value} (h : w.ownsRow base e size v n xs) (hh : w'.heap = w.heap) : w'.ownsRow base e size v n xs := by
  unfold World.ownsRow at *
  rw [hh]
  exact h
theorem row_eq {W : World} {n m : Nat} {e : TypeId} {k c : Nat} {xs : List Value} (ho : W.ownsRow n e 1 (.slice (some ⟨n, 0, none⟩) k c) k xs) (h : n = m) : W.ownsRow m e 1 (.slice (some ⟨m, 0, none⟩) k c) k xs := h ▸ ho
theorem heap_at {W W' : World} {n : Nat} {o : Obj} (h : W'.heap = W.heap) (hb : W.heap[n]? = some o) : W'.heap[n]? = some o := by rw [h]; exact hb
theorem drewN_below4 (w : World) (n : Nat) : Below w.heap.size w (w.drewN n) := ⟨rfl, rfl, rfl, Nat.le_refl _, fun _ _ => rfl⟩

set_option maxHeartbeats 2000000 in
set_option maxRecDepth 100000 in
theorem next_sign (s : ByteArray) (sc : Bool) (w : World) (hs : s.size ≤ 140737488351232) (hp : 0 < s.size) (hn : nameL s.data.toList sc = 0) (hd : digC (atL s.data.toList 0) = false) (hq : ¬ (atL s.data.toList 0 = 34 ∨ atL s.data.toList 0 = 39)) : Calls Tryz.prog 24 #[.string s, .bool sc] w fun e w' =>
    nextRes (signNx s.data.toList) e ∧ Below w.heap.size w w' := by
  have hname := fun W => name_any s sc W (by omega)
  rw [hn] at hname
  have hd1 := fun W => rdigit_any (atL s.data.toList 0) W
  rw [hd] at hd1
  have hby := byteI s 0 hp
  have b34 : (((s[0].toNat : Nat) : Int) == 34) = false := int_eqb (by rw [hby]; omega)
  have b39 : (((s[0].toNat : Nat) : Int) == 39) = false := int_eqb (by rw [hby]; omega)
  have hl28 : signsL.length = 28 := rfl
  clear hn hd hq
  have hby2 : ((s[0].toNat : Nat) : Int) = ((atL s.data.toList 0 : Nat) : Int) := hby
  rw [← hby] at hd1
  clear hby hby2
  go_enter Tryz.func24, Tryz.ntmps24
  go_wp2_with (first
    | (go_at_call 51; refine (hname _).mono ?_; rintro e W ⟨rfl, rfl⟩)
    | (go_at_call 53; refine (hd1 _).mono ?_; rintro e W ⟨rfl, rfl⟩)
    | (go_at_call 56; refine (signs_any _).mono ?_; rintro e W1 ⟨rfl, ho, hb1⟩))
  have hblk := four_new hb1
  have hbw : Below w.heap.size w W1 := ((Below.refl _ w).alloc (Nat.le_refl _) _).trans (hb1.mono (by simp))
  have ho := row_eq (m := w.heap.size + 1) ho (by simp)
  go_loopw [15] (fun v15 W => ∃ k : Nat, v15 = .int .i64 k ∧ k ≤ 28 ∧ Hid (W.heap = W1.heap) ∧ Below w.heap.size w W ∧ Hid (∀ g ∈ signsL.take k, g.isPrefixOf s.data.toList = false)) (fun v15 _ => 28 - (intOf v15).toNat)
  case atStart => exact ⟨0, rfl, by omega, rfl, hbw, by intro g hg; simp at hg⟩
  case round =>
    obtain ⟨k, rfl, hk, hh, hb, hl⟩ := hrel
    by_cases hkl : k < 28
    · have hk2 : (k : Int) < 28 := by omega
      obtain ⟨g, hg⟩ : ∃ g, signsL[k]? = some g := ⟨_, List.getElem?_eq_getElem (by rw [hl28]; exact hkl)⟩
      have hc := text_at (same_row ho hh.out) hg hkl
      have hpx := sign_at (l := s.data.toList) (g := g)
      rw [← Lib.size_eq] at hpx
      obtain ⟨G, hG⟩ : ∃ G : ByteArray, G = ⟨g.toArray⟩ := ⟨_, rfl⟩
      have hGl : G.data.toList = g := by rw [hG]
      have hGs : G.size = g.length := by rw [Lib.size_eq, hGl]
      rw [← hG] at hc
      have hcut := cut_list s G.size
      have heq : ((s.extract 0 G.size).toList == G.toList) = (s.data.toList.take g.length == g) := by
        rw [Lib.toList_data, Lib.toList_data, hcut, hGl, hGs]
      have HG : Hid (signsL[k]? = some g ∧ G = ⟨g.toArray⟩ ∧ G.size = g.length) := ⟨hg, hG, hGs⟩
      rw [← hGs] at hpx
      rw [hGs] at hpx
      clear hg hGl hcut
      cases hpre : g.isPrefixOf s.data.toList
      · have hl2 : Hid (∀ x ∈ signsL.take (k + 1), x.isPrefixOf s.data.toList = false) := by
          intro x hx
          rw [List.take_add_one, HG.out.1] at hx
          rcases List.mem_append.1 hx with hx | hx
          · exact hl.out x hx
          · rw [show x = g from by simpa using hx]; exact hpre
        rw [hpre] at hpx
        by_cases hle : g.length ≤ s.size
        · have e1 : ((s.extract 0 G.size).toList == G.toList) = false := by
            rw [heq]
            rw [decide_eq_true hle, Bool.true_and] at hpx
            exact hpx.symm
          have d1 : decide ((G.size : Int) ≤ (s.size : Int)) = true := decide_eq_true (by omega)
          have d2 : (G.size : Int) ≤ (s.size : Int) := by omega
          clear hpx heq hG hGs hl hpre
          go_wp2
          go_quiet (fail)
          go_wp2
          go_roundw
          case rel => exact ⟨k + 1, by simp, by omega, hh, hb.trans ((drewN_below4 _ _).mono hb.size), hl2⟩
          case measure => simp [intOf]; omega
        · have d1 : decide ((G.size : Int) ≤ (s.size : Int)) = false := decide_eq_false (by omega)
          have d3 : decide (G.size ≤ s.size) = false := decide_eq_false (by omega)
          clear hle
          clear hpx heq hG hGs hl hpre
          go_wp2
          go_quiet (fail)
          go_wp2
          go_roundw
          case rel => exact ⟨k + 1, by simp, by omega, hh, hb.trans ((drewN_below4 _ _).mono hb.size), hl2⟩
          case measure => simp [intOf]; omega
      · have HF : Hid (signNx s.data.toList = .ok ((5, g, 0), g.length)) := by
          show _ = _
          unfold signNx
          rw [find_step HG.out.1 hl.out hpre]
        rw [hpre] at hpx
        have hle : g.length ≤ s.size := by
          by_cases h : g.length ≤ s.size
          · exact h
          · rw [decide_eq_false h] at hpx; cases hpx
        have e1 : ((s.extract 0 G.size).toList == G.toList) = true := by
          rw [heq]
          rw [decide_eq_true hle, Bool.true_and] at hpx
          exact hpx.symm
        have d1 : decide ((G.size : Int) ≤ (s.size : Int)) = true := decide_eq_true (by omega)
        have d2 : (G.size : Int) ≤ (s.size : Int) := by omega
        have hblk2 := heap_at hh.out hblk
        obtain ⟨⟨c0, c1, c2, c3⟩, f0, f1, f2, f3⟩ := four_of hblk2
        clear hpx heq hG hGs hl hpre
        go_wp2
        go_quiet (fail)
        go_wp2
        go_region
        go_wp2
        refine bodyPost_ret (next_res (four_set (heap_at (W' := World.drewN wr _) rfl hblk2)) rfl) rfl ⟨?_, four_below (hb.trans ((drewN_below4 _ _).mono hb.size)) (Nat.le_refl _)⟩
        rw [HF.out]
        show _ = _
        simp only [tokV, ← HG.out.2.1, ← HG.out.2.2]
        rfl
    · have hk2 : ¬ (k : Int) < 28 := by omega
      have HF : Hid (signNx s.data.toList = .error 40) := by
        have h1 := hl.out
        rw [List.take_of_length_le (by rw [hl28]; omega)] at h1
        show _ = _
        unfold signNx
        rw [find_none h1]
      have hblk2 := heap_at hh.out hblk
      obtain ⟨⟨c0, c1, c2, c3⟩, f0, f1, f2, f3⟩ := four_of hblk2
      clear hl
      go_wp2
      refine bodyPost_ret (next_res (four_set hblk2) rfl) rfl ⟨?_, four_below hb (Nat.le_refl _)⟩
      rw [HF.out]
      exact ⟨(0, [], 0), rfl⟩

theorem next_any (s : ByteArray) (sc : Bool) (w : World) (hs : s.size ≤ 140737488351232) (hp : 0 < s.size) : Calls Tryz.prog 24 #[.string s, .bool sc] w fun e w' =>
    nextRes (nextL s.data.toList sc) e ∧ Below w.heap.size w w' := by
  unfold nextL
  by_cases h1 : 0 < nameL s.data.toList sc
  · rw [if_pos h1]
    exact next_name s sc w hs h1
  · rw [if_neg h1]
    have h0 : nameL s.data.toList sc = 0 := by omega
    cases h2 : digC (atL s.data.toList 0)
    · rw [if_neg (by simp)]
      by_cases h3 : atL s.data.toList 0 = 34 ∨ atL s.data.toList 0 = 39
      · rw [if_pos h3]; exact next_text s sc w hs hp h0 h2 h3
      · rw [if_neg h3]; exact next_sign s sc w hs hp h0 h2 h3
    · rw [if_pos rfl]; exact next_num s sc w hs hp h0 h2

end Go.Proofs.YtmfgcaffdkakhaaGreat
namespace Go.Proofs.YtmfgcaffdkakhaaGreat
open Go.RowKit
set_option linter.unusedVariables false

theorem ret_ib2 {k : IntKind} {a c : Int} {b d : Bool} (h : a = c) (h2 : b = d) : Ending.returned (.tuple #[.int k a, .bool b]) = .returned (.tuple #[.int k c, .bool d]) := by rw [h, h2]

set_option maxHeartbeats 8000000 in
set_option maxRecDepth 100000 in
theorem past_any (s : ByteArray) (w : World) (hs : s.size ≤ 140737488355328) : Calls Tryz.prog 23 #[.string s] w fun e w' => e = .returned (.tuple #[.int .i64 ((pastL s.data.toList).1 : Nat), .bool (pastL s.data.toList).2]) ∧ w' = w := by
  go_enter Tryz.func23, Tryz.ntmps23
  go_wp2
  go_loopw [4] (fun v4 W => ∃ i : Nat, v4 = .int .i64 i ∧ i ≤ s.size ∧ W = w ∧ Hid (pastL s.data.toList = (i + (pastL (s.data.toList.drop i)).1, (pastL (s.data.toList.drop i)).2))) (fun v4 _ => s.size - (intOf v4).toNat)
  case atStart => exact ⟨0, rfl, Nat.zero_le _, rfl, by simp [Hid]⟩
  case round =>
    obtain ⟨i, rfl, hi, rfl, hh⟩ := hrel
    by_cases hil : i < s.size
    · have hil2 : (i : Int) < (s.size : Int) := by omega
      have hby := byteO s i hil
      have hbl := isBl_of s[i]
      cases hib : isBl s[i]
      · rw [hib] at hbl
        have hbl2 := hbl.symm
        simp only [Bool.or_eq_false_iff, decide_eq_false_iff_not] at hbl2
        obtain ⟨⟨⟨n9, n10⟩, n13⟩, n32⟩ := hbl2
        have b9 := int_eqb n9
        have b10 := int_eqb n10
        have b13 := int_eqb n13
        have b32 := int_eqb n32
        clear hbl n9 n10 n13 n32
        by_cases h47 : s[i] = 47
        · have hx : ((s[i].toNat : Nat) : Int) = 47 := by rw [h47]; rfl
          by_cases hi1 : i + 1 < s.size
          · have hi2 : (i : Int) + 1 < (s.size : Int) := by omega
            have hby1 := byteO s (i + 1) hi1
            by_cases g47 : s[i + 1] = 47
            · have hy : ((s[i + 1].toNat : Nat) : Int) = 47 := by rw [g47]; rfl
              have hp := past_line (l := s.data.toList) (i := i) (by rw [hby, h47]) (by rw [hby1, g47])
              have h1 : 1 ≤ lineL (s.data.toList.drop i) := by
                have := lineL_go (l := s.data.toList) (j := i) (by rw [hby]) (by rw [h47]; decide)
                omega
              have HP : Hid (pastL (s.data.toList.drop i) = ((pastL (s.data.toList.drop (i + lineL (s.data.toList.drop i)))).1 + lineL (s.data.toList.drop i), (pastL (s.data.toList.drop (i + lineL (s.data.toList.drop i)))).2)) := hp
              clear hp hby hby1 h47 g47 hib
              go_wp2
              go_loopw [4] (fun v4 W => ∃ j : Nat, v4 = .int .i64 j ∧ i ≤ j ∧ j ≤ s.size ∧ W = wr ∧ Hid (lineL (s.data.toList.drop i) = (j - i) + lineL (s.data.toList.drop j))) (fun v4 _ => s.size - (intOf v4).toNat)
              case atStart => exact ⟨i, rfl, Nat.le_refl _, hi, rfl, by simp [Hid]⟩
              case round =>
                obtain ⟨j, rfl, hij, hj, rfl, hl⟩ := hrel
                clear b9 b10 b13 b32 hx hy
                by_cases hjl : j < s.size
                · have hjl2 : (j : Int) < (s.size : Int) := by omega
                  have hbj := byteO s j hjl
                  by_cases j10 : s[j] = 10
                  · have hz : ((s[j].toNat : Nat) : Int) = 10 := by rw [j10]; rfl
                    have e0 := lineL_end (l := s.data.toList) (j := j) (.inl (by rw [hbj, j10]))
                    have HR : Hid (pastL s.data.toList = (j + (pastL (s.data.toList.drop j)).1, (pastL (s.data.toList.drop j)).2) ∧ i < j) := by
                      have e1 := hl.out
                      have e2 := HP.out
                      rw [e0] at e1
                      rw [show i + lineL (s.data.toList.drop i) = j from by omega] at e2
                      refine ⟨?_, by omega⟩
                      rw [hh.out, e2]
                      simp only [Prod.mk.injEq, and_true]
                      omega
                    clear e0 j10 hbj hl HP
                    go_wp2
                    go_roundw
                    case rel => exact ⟨j, rfl, hj, by simp, HR.out.1⟩
                    case measure => have := HR.out.2; simp [intOf]; omega
                  · have hz : (((s[j].toNat : Nat) : Int) == 10) = false := int_eqb (fun e => j10 (u8_eq (n := 10) (by omega) e))
                    have hl2 : Hid (lineL (s.data.toList.drop i) = (j + 1 - i) + lineL (s.data.toList.drop (j + 1))) := by
                      show _ = _
                      rw [hl.out, lineL_go (by rw [hbj]) j10]
                      omega
                    clear j10 hbj hl
                    go_wp2
                    go_roundw
                    case rel => exact ⟨j + 1, by simp, by omega, by omega, by simp, hl2⟩
                    case measure => simp [intOf]; omega
                · have hjl2 : ¬ (j : Int) < (s.size : Int) := by omega
                  have e0 := lineL_end (l := s.data.toList) (j := j) (.inr (by rw [← Lib.size_eq]; omega))
                  have HR : Hid (pastL s.data.toList = (j + (pastL (s.data.toList.drop j)).1, (pastL (s.data.toList.drop j)).2) ∧ i < j) := by
                    have e1 := hl.out
                    have e2 := HP.out
                    rw [e0] at e1
                    rw [show i + lineL (s.data.toList.drop i) = j from by omega] at e2
                    refine ⟨?_, by omega⟩
                    rw [hh.out, e2]
                    simp only [Prod.mk.injEq, and_true]
                    omega
                  clear e0 hl HP
                  go_wp2
                  go_roundw
                  case rel => exact ⟨j, rfl, hj, by simp, HR.out.1⟩
                  case measure => have := HR.out.2; simp [intOf]; omega
            · have hy7 : (((s[i + 1].toNat : Nat) : Int) == 47) = false := int_eqb (fun e => g47 (u8_eq (n := 47) (by omega) e))
              by_cases g42 : s[i + 1] = 42
              · have hy : ((s[i + 1].toNat : Nat) : Int) = 42 := by rw [g42]; rfl
                have hp := past_note (l := s.data.toList) (i := i) (by rw [hby, h47]) (by rw [hby1, g42])
                have HP : Hid (pastL (s.data.toList.drop i) = match noteL (s.data.toList.drop (i + 2)) with
                    | none => (0, false)
                    | some k => ((pastL (s.data.toList.drop (i + 2 + k))).1 + (k + 2), (pastL (s.data.toList.drop (i + 2 + k))).2)) := hp
                clear hp hby hby1 h47 g47 g42 hib
                go_wp2
                go_loopw [5] (fun v5 W => ∃ k : Nat, v5 = .int .i64 k ∧ i + 2 ≤ k ∧ k ≤ s.size ∧ W = wr ∧ Hid (noteL (s.data.toList.drop (i + 2)) = (noteL (s.data.toList.drop k)).map (· + (k - (i + 2))))) (fun v5 _ => s.size - (intOf v5).toNat)
                case atStart => exact ⟨i + 2, by simp, Nat.le_refl _, by omega, rfl, by simp [Hid]⟩
                case round =>
                  obtain ⟨k, rfl, hik, hk, rfl, hl⟩ := hrel
                  clear b9 b10 b13 b32 hx hy hy7
                  by_cases hkl : k + 1 < s.size
                  · have hkl2 : (k : Int) + 1 < (s.size : Int) := by omega
                    have hkl3 : (k : Int) < (s.size : Int) := by omega
                    have hkl4 : ¬ (s.size : Int) ≤ (k : Int) + 1 := by omega
                    have hbk := byteO s k (by omega)
                    have hbk1 := byteO s (k + 1) hkl
                    by_cases k42 : s[k] = 42 ∧ s[k + 1] = 47
                    · have hz1 : ((s[k].toNat : Nat) : Int) = 42 := by rw [k42.1]; rfl
                      have hz2 : ((s[k + 1].toNat : Nat) : Int) = 47 := by rw [k42.2]; rfl
                      have HR : Hid (pastL s.data.toList = (k + 2 + (pastL (s.data.toList.drop (k + 2))).1, (pastL (s.data.toList.drop (k + 2))).2)) := by
                        have e1 := hl.out
                        have e2 := HP.out
                        rw [noteL_hit (l := s.data.toList) (j := k) (by rw [hbk, k42.1]) (by rw [hbk1, k42.2])] at e1
                        rw [e1] at e2
                        simp only [Option.map_some] at e2
                        rw [show i + 2 + (2 + (k - (i + 2))) = k + 2 from by omega] at e2
                        show _ = _
                        rw [hh.out, e2]
                        simp only [Prod.mk.injEq, and_true]
                        omega
                      clear k42 hbk hbk1 hl HP
                      go_wp2
                      go_roundw
                      case rel => exact ⟨k + 2, by simp, by omega, by simp, HR⟩
                      case measure => simp [intOf]; omega
                    · have hl2 : Hid (noteL (s.data.toList.drop (i + 2)) = (noteL (s.data.toList.drop (k + 1))).map (· + (k + 1 - (i + 2)))) := by
                        show _ = _
                        rw [hl.out, noteL_go (by rw [hbk]) (fun h => k42 ⟨h.1, by rw [hbk1] at h; exact Option.some.inj h.2⟩), Option.map_map]
                        congr 1
                        funext x
                        simp only [Function.comp]
                        omega
                      by_cases k1 : s[k] = 42
                      · have hz1 : ((s[k].toNat : Nat) : Int) = 42 := by rw [k1]; rfl
                        have hz2 : (((s[k + 1].toNat : Nat) : Int) == 47) = false := int_eqb (fun e => k42 ⟨k1, u8_eq (n := 47) (by omega) e⟩)
                        clear k42 hbk hbk1 hl k1
                        go_wp2
                        go_roundw
                        case rel => exact ⟨k + 1, by simp, by omega, by omega, by simp, hl2⟩
                        case measure => simp [intOf]; omega
                      · have hz1 : (((s[k].toNat : Nat) : Int) == 42) = false := int_eqb (fun e => k1 (u8_eq (n := 42) (by omega) e))
                        clear k42 hbk hbk1 hl k1
                        go_wp2
                        go_roundw
                        case rel => exact ⟨k + 1, by simp, by omega, by omega, by simp, hl2⟩
                        case measure => simp [intOf]; omega
                  · have hkl2 : ¬ (k : Int) + 1 < (s.size : Int) := by omega
                    have hkl4 : (s.size : Int) ≤ (k : Int) + 1 := by omega
                    have HR : Hid (pastL s.data.toList = (i, false)) := by
                      have e1 := hl.out
                      have e2 := HP.out
                      rw [noteL_out (l := s.data.toList) (j := k) (by rw [← Lib.size_eq]; omega)] at e1
                      rw [e1] at e2
                      show _ = _
                      rw [hh.out, e2]
                      rfl
                    clear hl HP
                    go_wp2
                    go_ret2
                    exact ⟨ret_ib2 (by rw [HR.out]) (by rw [HR.out]), rfl⟩
              · have hy2 : (((s[i + 1].toNat : Nat) : Int) == 42) = false := int_eqb (fun e => g42 (u8_eq (n := 42) (by omega) e))
                have HR : Hid (pastL s.data.toList = (i, true)) := by
                  show _ = _
                  rw [hh.out, past_stop (by rw [hby]) hib (fun h => g47 (by rw [hby1] at h; exact Option.some.inj h.2)) (fun h => g42 (by rw [hby1] at h; exact Option.some.inj h.2))]
                  rfl
                clear hby hby1 h47 g47 g42 hib hh
                go_wp2
                go_ret2
                exact ⟨ret_ib2 (by rw [HR.out]) (by rw [HR.out]), rfl⟩
          · have hi2 : ¬ (i : Int) + 1 < (s.size : Int) := by omega
            have hno : s.data.toList[i + 1]? = none := List.getElem?_eq_none (by rw [← Lib.size_eq]; omega)
            have HR : Hid (pastL s.data.toList = (i, true)) := by
              show _ = _
              rw [hh.out, past_stop (by rw [hby]) hib (fun h => by rw [hno] at h; cases h.2) (fun h => by rw [hno] at h; cases h.2)]
              rfl
            clear hby h47 hib hh hno
            go_wp2
            go_ret2
            exact ⟨ret_ib2 (by rw [HR.out]) (by rw [HR.out]), rfl⟩
        · have hx : (((s[i].toNat : Nat) : Int) == 47) = false := int_eqb (fun e => h47 (u8_eq (n := 47) (by omega) e))
          have HR : Hid (pastL s.data.toList = (i, true)) := by
            show _ = _
            rw [hh.out, past_stop (by rw [hby]) hib (fun h => h47 h.1) (fun h => h47 h.1)]
            rfl
          clear hby h47 hib hh
          go_wp2
          go_ret2
          exact ⟨ret_ib2 (by rw [HR.out]) (by rw [HR.out]), rfl⟩
      · rw [hib] at hbl
        have hbl2 := hbl.symm
        simp only [Bool.or_eq_true, decide_eq_true_eq] at hbl2
        have HR : Hid (pastL s.data.toList = (i + 1 + (pastL (s.data.toList.drop (i + 1))).1, (pastL (s.data.toList.drop (i + 1))).2)) := by
          show _ = _
          rw [hh.out, past_blank (by rw [hby]) hib]
          simp only [Prod.mk.injEq, and_true]
          omega
        clear hby hib hh hbl
        rcases hbl2 with ((hx | hx) | hx) | hx
        all_goals
          go_wp2
          go_roundw
          case rel => exact ⟨i + 1, by simp, by omega, by simp, HR⟩
          case measure => simp [intOf]; omega
    · have hil2 : ¬ (i : Int) < (s.size : Int) := by omega
      have HR : Hid (pastL s.data.toList = (i, true)) := by
        show _ = _
        rw [hh.out, drop_end s i hil]
        rfl
      clear hh
      go_wp2
      go_ret2
      exact ⟨ret_ib2 (by rw [HR.out]) (by rw [HR.out]), rfl⟩

end Go.Proofs.YtmfgcaffdkakhaaGreat
namespace Go.Proofs.YtmfgcaffdkakhaaGreat
set_option linter.unusedVariables false

theorem unqS_len : ∀ (m : Nat) (l : Bs) (u : Unq) (pos : Nat) (t : Bs) (n : Nat), l.length ≤ m → unqS (scan l) u pos = some (t, n) → pos + 1 ≤ n ∧ n ≤ pos + l.length
  | m, [], u, pos, t, n, _, h => by rw [scan_nil] at h; cases h
  | 0, c :: r, u, pos, t, n, hm, h => by simp at hm
  | m + 1, c :: r, u, pos, t, n, hm, h => by
    have hne : (c :: r) ≠ [] := by simp
    have hw := decL_width (c :: r)
    have hle := decL_le (c :: r) hne
    cases hs : strayL (c :: r)
    · cases hu : stepU u (decL (c :: r)).1 with
      | none => rw [unqS_none _ hne hs u pos hu] at h; cases h
      | some u' =>
        by_cases h5 : u'.st = 5
        · rw [unqS_end _ hne hs u u' pos hu h5] at h
          cases h
          exact ⟨Nat.le_refl _, by simp⟩
        · rw [unqS_more _ hne hs u u' pos hu h5] at h
          have ih := unqS_len m _ u' _ t n (by simp only [List.length_drop]; simp only [List.length_cons] at hm ⊢; omega) h
          simp only [List.length_drop] at ih
          omega
    · rw [unqS_stray _ hne hs u pos] at h; cases h
theorem unquoteL_len {l t : Bs} {n : Nat} (h : unquoteL l = some (t, n)) : 1 ≤ n ∧ n ≤ l.length := by
  have := unqS_len l.length l _ 0 t n (Nat.le_refl _) h
  omega

theorem digsL_le (l : Bs) : (digsL l).length ≤ l.length := (List.takeWhile_sublist _).length_le
theorem digsL_pos {l : Bs} (hl : l ≠ []) (h : digC (atL l 0) = true) : 1 ≤ (digsL l).length := by
  cases l with
  | nil => exact absurd rfl hl
  | cons c r =>
    have : digC c.toNat = true := by simpa [atL] using h
    simp [digsL, this]
theorem signsL_pos : ∀ g ∈ signsL, 1 ≤ g.length := by decide

theorem next_len {l : Bs} {sc : Bool} {x : Tk × Nat} (hl : l ≠ []) (h : nextL l sc = .ok x) : 1 ≤ x.2 ∧ x.2 ≤ l.length := by
  unfold nextL at h
  split at h
  · rename_i h1
    cases h
    exact ⟨h1, nameL_le l sc⟩
  · split at h
    · rename_i h2
      unfold numbL at h
      split at h
      · cases h
      · split at h
        · cases h
        · cases h
          exact ⟨digsL_pos hl h2, digsL_le l⟩
    · split at h
      · unfold unqNx at h
        split at h
        · rename_i y hy
          cases h
          exact unquoteL_len (t := y.1) (n := y.2) hy
        · cases h
      · unfold signNx at h
        split at h
        · rename_i g hg
          cases h
          have hm := List.mem_of_find?_eq_some hg
          have hp := List.find?_some hg
          exact ⟨signsL_pos g hm, (List.isPrefixOf_iff_prefix.1 hp).length_le⟩
        · cases h

theorem lexF_more : ∀ (f g a : Nat) (l : Bs) (sc : Bool), l.length < f → l.length < g → lexF f a l sc = lexF g a l sc
  | f + 1, g + 1, a, l, sc, hf, hg => by
    unfold lexF
    split
    · rfl
    · split
      · rfl
      · rename_i hne
        cases hx : nextL (l.drop (pastL l).1) sc with
        | error e => rfl
        | ok x =>
          have hl := next_len hne hx
          have hp := pastL_le l
          simp only [List.length_drop] at hl
          simp only
          rw [lexF_more f g _ _ sc (by simp; omega) (by simp; omega)]
theorem lexL_eq (a : Nat) (l : Bs) (sc : Bool) : lexL a l sc =
    if (pastL l).2 = false then .error (a + (pastL l).1, 40)
    else if l.drop (pastL l).1 = [] then .ok []
    else match nextL (l.drop (pastL l).1) sc with
      | .error e => .error (a + (pastL l).1, e)
      | .ok x => consL (x.1, a + (pastL l).1) (lexL (a + (pastL l).1 + x.2) (l.drop ((pastL l).1 + x.2)) sc) := by
  conv => lhs; unfold lexL lexF
  split
  · rfl
  · split
    · rfl
    · rename_i hne
      cases hx : nextL (l.drop (pastL l).1) sc with
      | error e => rfl
      | ok x =>
        have hl := next_len hne hx
        have hp := pastL_le l
        simp only [List.length_drop] at hl
        simp only
        unfold lexL
        rw [lexF_more l.length ((l.drop ((pastL l).1 + x.2)).length + 1) _ _ sc (by simp; omega) (by omega)]

def preL (d : List (Tk × Nat)) : Lx → Lx
  | .error e => .error e
  | .ok ts => .ok (d ++ ts)
theorem preL_nil (x : Lx) : preL [] x = x := by cases x <;> rfl
theorem preL_cons (d : List (Tk × Nat)) (t : Tk × Nat) (x : Lx) : preL d (consL t x) = preL (d ++ [t]) x := by
  cases x
  · rfl
  · simp [preL, consL]

end Go.Proofs.YtmfgcaffdkakhaaGreat
namespace Go.Proofs.YtmfgcaffdkakhaaGreat
open Go.RowKit
set_option linter.unusedVariables false

def tokCells (x : Tk × Int) : List Value := [.int .i64 x.1.1, .string ⟨x.1.2.1.toArray⟩, .int .i64 x.1.2.2, .int .i64 x.2]
def rowT (ts : List (Tk × Int)) : List Value := ts.flatMap tokCells
theorem rowT_snoc (ts : List (Tk × Int)) (x : Tk × Int) : rowT (ts ++ [x]) = rowT ts ++ tokCells x := by simp [rowT]
abbrev ToksAt (w : World) (base : Nat) (v : Value) (ts : List (Tk × Int)) : Prop := w.ownsRow base 43 4 v ts.length (rowT ts)
/-- places as numbers. -/
def ints (ts : List (Tk × Nat)) : List (Tk × Int) := ts.map fun x => (x.1, (x.2 : Int))
theorem ints_length (ts : List (Tk × Nat)) : (ints ts).length = ts.length := by simp [ints]
theorem ints_snoc (ts : List (Tk × Nat)) (x : Tk × Nat) : ints (ts ++ [x]) = ints ts ++ [(x.1, (x.2 : Int))] := by simp [ints]

theorem info_tok : (Tryz.prog.info? 43).map (fun i => (i.zero, i.size, i.bytes)) = some (some (.agg #[.int .i64 0, .string ByteArray.empty, .int .i64 0, .int .i64 0]), 4, 40) := by kernel_rfl
theorem add_plain (b o n : Nat) : (⟨b, o, none⟩ : Addr).add n = ⟨b, o + n, none⟩ := by
  unfold Addr.add
  split
  · rename_i h; subst h; rfl
  · rfl
theorem cells_new (w : World) (cs : Array Value) (t : TypeId) : ∀ j u, cs.toList[j]? = some u → (w.alloc (.cells cs t)).cell? ((⟨w.heap.size, 0, none⟩ : Addr).add j) = some u := by
  intro j u h
  rw [add_plain, cell_of_row _ _ (0 + j) cs t (0, 0) (heap_alloc_new w _)]
  simpa using h
theorem cells_new2 (w : World) (cs : Array Value) (t : TypeId) (n : Nat) (hn : n = w.heap.size) : ∀ j u, cs.toList[j]? = some u → (w.alloc (.cells cs t)).cell? ((⟨n, 0, none⟩ : Addr).add j) = some u := by
  subst hn
  exact cells_new w cs t
theorem toks_app {w : World} {base : Nat} {v : Value} {ts : List (Tk × Int)} {x : Tk × Int} (h : w.ownsRow base 43 4 v (ts.length + 1) (rowT ts ++ tokCells x)) : ToksAt w base v (ts ++ [x]) := by
  have e1 : (ts ++ [x]).length = ts.length + 1 := by simp
  unfold ToksAt
  rw [e1, rowT_snoc]
  exact h

theorem next_err {l : Bs} {sc : Bool} {c : Nat} (h : nextL l sc = .error c) : c = 40 ∨ c = 41 := by
  unfold nextL at h
  split at h
  · cases h
  · split at h
    · unfold numbL at h
      split at h
      · cases h; exact .inl rfl
      · split at h
        · cases h; exact .inr rfl
        · cases h
    · split at h
      · unfold unqNx at h
        split at h
        · cases h
        · cases h; exact .inl rfl
      · unfold signNx at h
        split at h
        · cases h
        · cases h; exact .inl rfl

def lexRes (r : Lx) (base : Nat) (e : Ending) (w' : World) : Prop := match r with
  | .ok ts => ∃ v, e = .returned (.tuple #[v, .int .i64 0, .int .i64 0]) ∧ ToksAt w' base v (ints ts)
  | .error x => e = .returned (.tuple #[.slice none 0 0, .int .i64 (x.1 : Nat), .int .i64 (x.2 : Nat)])

set_option maxHeartbeats 2000000 in
set_option maxRecDepth 100000 in
theorem lex_ref (s : ByteArray) (sc : Bool) (w : World) (hs : s.size ≤ 1099511627776) : Calls Tryz.prog 10 #[.string s, .bool sc] w fun e w' =>
    lexRes (lexL 0 s.data.toList sc) w.heap.size e w' ∧ Below w.heap.size w w' := by
  obtain ⟨i0, hi, hz0, hz1, hz2⟩ := info_parts info_tok
  have hsl : Hid (s.size = s.data.toList.length) := Lib.size_eq s
  go_enter Tryz.func10, Tryz.ntmps10
  go_wp2
  go_loopw [7, 8] (fun v7 v8 W => ∃ (a : Nat) (d : List (Tk × Nat)), v8 = .int .i64 a ∧ a ≤ s.size ∧ d.length ≤ a ∧ ToksAt W w.heap.size v7 (ints d) ∧ Below w.heap.size w W ∧
      Hid (lexL 0 s.data.toList sc = preL d (lexL a (s.data.toList.drop a) sc))) (fun _ v8 _ => s.size - (intOf v8).toNat)
  case atStart => exact ⟨0, [], rfl, Nat.zero_le _, by simp, World.ownsRow_nil _ _ _ _, Below.refl _ _, by simp [Hid, preL_nil]⟩
  case round =>
    obtain ⟨a, d, rfl, ha, hda, ht, hb, hh⟩ := hrel
    have hxl : (s.extract a s.size).data.toList = s.data.toList.drop a := drop_extract s a
    have hpa := fun W => past_any (s.extract a s.size) W (by rw [Lib.size_eq, hxl, List.length_drop, ← Lib.size_eq]; omega)
    rw [hxl] at hpa
    have hsr := drop_run s a ha
    have hpl := pastL_le (s.data.toList.drop a)
    rw [List.length_drop, ← Lib.size_eq] at hpl
    have hle := lexL_eq a (s.data.toList.drop a) sc
    obtain ⟨k, hk⟩ : ∃ k, k = (pastL (s.data.toList.drop a)).1 := ⟨_, rfl⟩
    rw [← hk] at hpa hpl hle
    rw [List.drop_drop] at hle
    clear hxl
    generalize s.extract a s.size = X at *
    cases hok : (pastL (s.data.toList.drop a)).2
    · rw [hok] at hpa hle
      have HR : Hid (lexL 0 s.data.toList sc = .error (a + k, 40)) := by
        show _ = _
        rw [hh.out, hle, if_pos rfl]
        rfl
      clear hle hk hok hh
      go_wp2_with (go_at_call 23; refine (hpa _).mono ?_; rintro e W ⟨rfl, rfl⟩)
      go_ret3
      refine ⟨?_, hb⟩
      rw [HR.out]
      show _ = _
      simp
    · rw [hok] at hpa hle
      rw [if_neg (by simp)] at hle
      clear hok hk
      by_cases hend : a + k = s.size
      · have hd0 : s.data.toList.drop (a + k) = [] := List.drop_eq_nil_of_le (by rw [← hsl.out]; omega)
        have HR : Hid (lexL 0 s.data.toList sc = .ok d) := by
          show _ = _
          rw [hh.out, hle, if_pos hd0]
          simp [preL]
        have he : (a : Int) + (k : Int) = (s.size : Int) := by omega
        clear hle hd0 hh
        go_wp2_with (go_at_call 23; refine (hpa _).mono ?_; rintro e W ⟨rfl, rfl⟩)
        go_ret3
        refine ⟨?_, hb⟩
        rw [HR.out]
        exact ⟨_, rfl, ht⟩
      · have hlt : a + k < s.size := by omega
        have hd0 : s.data.toList.drop (a + k) ≠ [] := drop_ne s (a + k) hlt
        rw [if_neg hd0] at hle
        have he : ((a : Int) + (k : Int) == (s.size : Int)) = false := int_eqb (by omega)
        have hyl : (s.extract (a + k) s.size).data.toList = s.data.toList.drop (a + k) := drop_extract s (a + k)
        have hys : (s.extract (a + k) s.size).size = s.size - (a + k) := by rw [Lib.size_eq, hyl, List.length_drop, ← Lib.size_eq]
        have hnx := fun W => next_any (s.extract (a + k) s.size) sc W (by omega) (by omega)
        rw [hyl] at hnx
        have hsr2 := drop_run s (a + k) (by omega)
        rw [show ((a + k : Nat) : Int) = (a : Int) + (k : Int) from by omega] at hsr2
        have hlen := fun x => next_len (l := s.data.toList.drop (a + k)) (sc := sc) (x := x) hd0
        clear hyl hys hd0
        generalize s.extract (a + k) s.size = Y at *
        cases hnl : nextL (s.data.toList.drop (a + k)) sc with
        | error c =>
          rw [hnl] at hnx hle
          have HR : Hid (lexL 0 s.data.toList sc = .error (a + k, c)) := by
            show _ = _
            rw [hh.out, hle]
            rfl
          have hc0 : ((c : Int) == 0) = false := int_eqb (by rcases next_err hnl with h | h <;> omega)
          clear hle hh hnl hlen
          simp only [nextRes] at hnx
          go_wp2_with (first
            | (go_at_call 23; refine (hpa _).mono ?_; rintro e W ⟨rfl, rfl⟩)
            | (go_at_call 24; refine (hnx _).mono ?_; rintro e W2 ⟨⟨⟨t1, t2, t3⟩, rfl⟩, hb2⟩; simp only [tokV]))
          go_ret3
          refine ⟨?_, (hb.trans (hb2.mono hb.size)).alloc (by have := hb.size; have := hb2.size; omega) _⟩
          rw [HR.out]
          show _ = _
          simp
        | ok x =>
          have hx := hlen x hnl
          rw [List.length_drop, ← hsl.out] at hx
          rw [hnl] at hnx hle
          simp only at hle
          have HR : Hid (lexL 0 s.data.toList sc = preL (d ++ [(x.1, a + k)]) (lexL (a + k + x.2) (s.data.toList.drop (a + k + x.2)) sc)) := by
            show _ = _
            rw [hh.out, hle, preL_cons, List.drop_drop, Nat.add_assoc]
          clear hle hh hnl hlen
          obtain ⟨⟨t1, t2, t3⟩, n⟩ := x
          simp only at hx HR
          simp only [nextRes, tokV] at hnx
          have hil := ints_length d
          go_wp2_with (first
            | (go_at_call 23; refine (hpa _).mono ?_; rintro e W ⟨rfl, rfl⟩)
            | (go_at_call 24; refine (hnx _).mono ?_; rintro e W2 ⟨rfl, hb2⟩)
            | (at_builtin; refine wpList_append_own _ rfl _ _ 22 rfl w.heap.size 43 i0 _ 4 40 Tryz.underlying22 hi hz0 hz1 hz2 rfl (by decide) _ _ _ rfl (((ht.kept (row := none) ⟨hb2.os, hb2.tape, hb2.output, hb2.size, fun k hk _ => hb2.block k hk⟩ (by cases hv : Value.ownBlock _ <;> simp)).alloc _).alloc _) ⟨_, 0, none⟩ 1 1 (tokCells ((t1, t2, t3), (a : Int) + (k : Int))) rfl rfl (cells_new2 _ #[.int .i64 t1, .string ⟨t2.toArray⟩, .int .i64 t3, .int .i64 ((a : Int) + (k : Int))] _ _ (by simp)) (by intro u hu; simp [tokCells] at hu; rcases hu with rfl | rfl | rfl | rfl <;> rfl) (by unfold maxLen; omega) (by omega) (by have h1 := hb.size; have h2 := hb2.size; simp; omega) ?_; intro v1 W3 ho1 hg1 hn1))
          go_roundw
          case rel =>
            have hbw := hb.trans (hb2.mono hb.size)
            refine ⟨a + k + n, d ++ [((t1, t2, t3), a + k)], by simp, by omega, by simp; omega, ?_, ?_, HR⟩
            · rw [ints_snoc]
              have e : (((t1, t2, t3), ((a + k : Nat) : Int)) : Tk × Int) = ((t1, t2, t3), (a : Int) + (k : Int)) := by simp
              rw [e]
              exact toks_app ho1
            · exact ((hbw.alloc hbw.size _).alloc (by have := hbw.size; simp; omega) _).grown hg1 (by have := hbw.size; simp; omega) (fun j hj => (ht.lt j hj).1)
          case measure => simp [intOf]; omega

end Go.Proofs.YtmfgcaffdkakhaaGreat
namespace Go.Proofs.YtmfgcaffdkakhaaGreat
open Go.RowKit
set_option linter.unusedVariables false
end Go.Proofs.YtmfgcaffdkakhaaGreat
namespace Go.Proofs.YtmfgcaffdkakhaaGreat
open Go.RowKit
set_option linter.unusedVariables false

end Go.Proofs.YtmfgcaffdkakhaaGreat
namespace Go.Proofs.YtmfgcaffdkakhaaGreat
set_option linter.unusedVariables false

theorem atL_app0 {p : Bs} (h : p ≠ []) (q : Bs) : atL (p ++ q) 0 = atL p 0 := atL_app p q 0 (List.length_pos_iff.2 h)
theorem atL_take0 {l : Bs} {n : Nat} (h : 0 < n) : atL (l.take n) 0 = atL l 0 := atL_take_lt l n 0 h
theorem take_ne {l : Bs} {n : Nat} (hl : l ≠ []) (hn : 0 < n) : l.take n ≠ [] := by
  cases l with
  | nil => exact absurd rfl hl
  | cons c r => cases n with
    | zero => omega
    | succ n => simp

/-- the first rune of a text, cut off behind it. -/
theorem dec_local {l : Bs} (hl : l ≠ []) (hs : strayL l = false) (q : Bs) : decL (l.take (decL l).2 ++ q) = decL l := by
  have hw := decL_width l
  have hle := decL_le l hl
  have ht := decL_take l hl
  have hlen : (l.take (decL l).2).length = (decL l).2 := by rw [List.length_take]; omega
  have hs2 : strayL (l.take (decL l).2) = false := by unfold strayL; rw [ht]; exact hs
  rw [decL_app _ q (take_ne hl (by omega)) (by rw [ht, hlen]) hs2, ht]
theorem stray_local {l : Bs} (hl : l ≠ []) (hs : strayL l = false) (q : Bs) : strayL (l.take (decL l).2 ++ q) = false := by
  unfold strayL
  rw [dec_local hl hs q]
  exact hs

/-- at a byte below 128 the first byte alone decides. -/
theorem dec_low1 {l : Bs} (h : atL l 0 < 128) : decL l = (atL l 0, 1) := by rw [decL, if_pos h]
theorem beg_low {l m : Bs} (hl : l ≠ []) (hm : m ≠ []) (h : atL l 0 < 128) (he : atL m 0 = atL l 0) (sc : Bool) : begL m sc = begL l sc := by
  have h2 : atL m 0 < 128 := by omega
  unfold begL
  rw [if_neg hl, if_neg hm]
  unfold strayL
  rw [dec_low1 h, dec_low1 h2, he]
theorem beg_local {l : Bs} {sc : Bool} (h : 0 < begL l sc) (q : Bs) : begL (l.take (begL l sc) ++ q) sc = begL l sc := by
  have hl : l ≠ [] := fun e => by subst e; simp [begL] at h
  obtain ⟨n, hn⟩ : ∃ n, n = begL l sc := ⟨_, rfl⟩
  have hnp : 0 < n := by omega
  have hne : l.take n ++ q ≠ [] := by simp [take_ne hl hnp]
  have hat : atL (l.take n ++ q) 0 = atL l 0 := by rw [atL_app0 (take_ne hl hnp), atL_take0 hnp]
  rw [← hn]
  by_cases h1 : atL l 0 = 95 ∨ (sc = true ∧ atL l 0 = 36)
  · have e1 : begL l sc = 1 := by unfold begL; rw [if_neg hl, if_pos h1]
    unfold begL
    rw [if_neg hne, hat, if_pos h1]
    omega
  · have e1 := hn
    unfold begL at e1
    rw [if_neg hl, if_neg h1] at e1
    split at e1
    · rename_i h2
      unfold begL
      rw [if_neg hne, hat, if_neg h1]
      rw [e1, dec_local hl h2.1 q, stray_local hl h2.1 q, if_pos ⟨rfl, h2.2⟩]
    · omega
theorem on_local {l : Bs} {sc : Bool} (h : 0 < onL l sc) (q : Bs) : onL (l.take (onL l sc) ++ q) sc = onL l sc := by
  by_cases hb : begL l sc ≠ 0
  · have e : onL l sc = begL l sc := by unfold onL; rw [if_pos hb]
    rw [e]
    have := beg_local (q := q) (show 0 < begL l sc by omega)
    unfold onL
    rw [this, if_pos hb]
  · have hb0 : begL l sc = 0 := by omega
    by_cases hd : l ≠ [] ∧ digC (atL l 0) = true
    · have e : onL l sc = 1 := by unfold onL; rw [if_neg hb, if_pos hd]
      have hlow : atL l 0 < 128 := by have := hd.2; unfold digC at this; simp at this; omega
      have hne : l.take 1 ++ q ≠ [] := by simp [take_ne hd.1]
      have hat : atL (l.take 1 ++ q) 0 = atL l 0 := by rw [atL_app0 (take_ne hd.1 (by omega)), atL_take0 (by omega)]
      rw [e]
      unfold onL
      rw [beg_low hd.1 hne hlow hat, if_neg hb, hat, if_pos ⟨hne, hd.2⟩]
    · have e : onL l sc = 0 := by unfold onL; rw [if_neg hb, if_neg hd]
      omega
theorem tail_local : ∀ (m : Nat) (l : Bs) (sc : Bool) (z : Bs), l.length ≤ m → onL z sc = 0 → tailL (l.take (tailL l sc) ++ z) sc = tailL l sc := by
  intro m
  induction m with
  | zero =>
    intro l sc z hm hz
    have hl : l = [] := List.eq_nil_of_length_eq_zero (by omega)
    subst hl
    have e : tailL [] sc = 0 := by rw [tailL_eq]; simp [onL, begL]
    rw [e, tailL_eq]
    simp [hz]
  | succ m ih =>
    intro l sc z hm hz
    by_cases h0 : onL l sc = 0
    · have e : tailL l sc = 0 := by rw [tailL_eq, if_pos h0]
      rw [e, tailL_eq]
      simp [hz]
    · have hle := onL_le l sc
      have e : tailL l sc = onL l sc + tailL (l.drop (onL l sc)) sc := by rw [tailL_eq, if_neg h0]
      have h1 := ih (l.drop (onL l sc)) sc z (by simp; omega) hz
      have hcut : l.take (tailL l sc) ++ z = l.take (onL l sc) ++ ((l.drop (onL l sc)).take (tailL (l.drop (onL l sc)) sc) ++ z) := by
        rw [e, List.take_add, List.append_assoc]
      rw [hcut, tailL_eq, on_local (by omega), if_neg h0]
      have hd : (l.take (onL l sc) ++ ((l.drop (onL l sc)).take (tailL (l.drop (onL l sc)) sc) ++ z)).drop (onL l sc) = (l.drop (onL l sc)).take (tailL (l.drop (onL l sc)) sc) ++ z := by
        have hlen : (l.take (onL l sc)).length = onL l sc := by rw [List.length_take]; omega
        conv => lhs; arg 1; rw [← hlen]
        exact List.drop_left
      rw [hd, h1, ← e]
theorem name_local {l : Bs} {sc : Bool} (h : 0 < nameL l sc) {z : Bs} (hz : onL z sc = 0) : nameL (l.take (nameL l sc) ++ z) sc = nameL l sc := by
  have hb : begL l sc ≠ 0 := fun e => by unfold nameL at h; rw [if_pos e] at h; omega
  have hle := begL_le l sc
  have e : nameL l sc = begL l sc + tailL (l.drop (begL l sc)) sc := by unfold nameL; rw [if_neg hb]
  have hcut : l.take (nameL l sc) ++ z = l.take (begL l sc) ++ ((l.drop (begL l sc)).take (tailL (l.drop (begL l sc)) sc) ++ z) := by
    rw [e, List.take_add, List.append_assoc]
  have hlen : (l.take (begL l sc)).length = begL l sc := by rw [List.length_take]; omega
  rw [hcut]
  unfold nameL
  rw [beg_local (by omega), if_neg hb]
  have hd : (l.take (begL l sc) ++ ((l.drop (begL l sc)).take (tailL (l.drop (begL l sc)) sc) ++ z)).drop (begL l sc) = (l.drop (begL l sc)).take (tailL (l.drop (begL l sc)) sc) ++ z := by
    conv => lhs; arg 1; rw [← hlen]
    exact List.drop_left
  rw [hd, tail_local _ _ sc z (Nat.le_refl _) hz, if_neg hb]

theorem on_zero {z : Bs} {sc : Bool} (h : onL z sc = 0) : begL z sc = 0 ∧ (z = [] ∨ digC (atL z 0) = false) := by
  unfold onL at h
  split at h
  · rename_i hb; exact absurd h hb
  · rename_i hb
    refine ⟨by omega, ?_⟩
    split at h
    · cases h
    · rename_i hd
      by_cases e : z = []
      · exact .inl e
      · exact .inr (by simpa using fun h2 => hd ⟨e, h2⟩)
theorem digs_local {l : Bs} {z : Bs} (hz : z = [] ∨ digC (atL z 0) = false) : digsL (l.take (digsL l).length ++ z) = digsL l := by
  have h1 : l.take (digsL l).length = digsL l := by
    unfold digsL
    exact (List.prefix_iff_eq_take.1 (List.takeWhile_prefix _)).symm
  rw [h1]
  have hall : ∀ c ∈ digsL l, digC c.toNat = true := fun c hc => by
    unfold digsL at hc
    exact List.all_eq_true.1 List.all_takeWhile c hc
  have : ∀ d : Bs, (∀ c ∈ d, digC c.toNat = true) → digsL (d ++ z) = d := by
    intro d
    induction d with
    | nil =>
      intro _
      cases z with
      | nil => rfl
      | cons c r =>
        have : digC c.toNat = false := by
          rcases hz with h | h
          · cases h
          · simpa [atL] using h
        simp [digsL, this]
    | cons c d ih =>
      intro h
      have hc := h c (by simp)
      have := ih (fun x hx => h x (by simp [hx]))
      unfold digsL at this ⊢
      simp only [List.cons_append, List.takeWhile_cons, hc, if_true, this]
  exact this _ hall

end Go.Proofs.YtmfgcaffdkakhaaGreat
namespace Go.Proofs.YtmfgcaffdkakhaaGreat
set_option linter.unusedVariables false

/-- the quote that a text began with is 34 or 39. -/
def Unq.qs (u : Unq) : Prop := u.st = 0 ∨ u.q = 34 ∨ u.q = 39
theorem stepU_qs {u u' : Unq} {r : Int} (h : stepU u r = some u') (hq : u.qs) : u'.qs := by
  unfold stepU at h
  split at h
  · unfold stepFirst at h
    split at h
    · rename_i h1
      cases h
      exact .inr h1
    · cases h
  · rename_i h0
    have hq2 : u.q = 34 ∨ u.q = 39 := hq.resolve_left h0
    have key : u'.q = u.q := by
      split at h
      · unfold stepInside at h
        repeat' split at h
        all_goals first | (cases h; done) | (cases h; rfl)
      · split at h
        · unfold stepEscaped at h
          repeat' split at h
          all_goals first | (cases h; done) | (cases h; rfl)
        · split at h
          · unfold stepNumbered at h
            repeat' split at h
            all_goals first | (cases h; done) | (cases h; rfl)
          · first
              | (unfold stepCounting at h
                 repeat' split at h
                 all_goals first | (cases h; done) | (cases h; rfl))
              | (split at h
                 · unfold stepCounting at h
                   repeat' split at h
                   all_goals first | (cases h; done) | (cases h; rfl)
                 · first | (cases h; done) | (cases h; rfl))
    exact .inr (by rw [key]; exact hq2)
theorem stepU_end {u u' : Unq} {r : Int} (h : stepU u r = some u') (h5 : u'.st = 5) (hu : u.st ≠ 5) (hq : u.qs) : r = 34 ∨ r = 39 := by
  unfold stepU at h
  split at h
  · unfold stepFirst at h
    split at h
    · cases h; simp at h5
    · cases h
  · rename_i h0
    have hq2 : u.q = 34 ∨ u.q = 39 := hq.resolve_left h0
    split at h
    · unfold stepInside at h
      split at h
      · cases h
      · split at h
        · rename_i hr; rw [hr]; exact hq2
        · split at h
          · cases h; simp [Unq.to] at h5
          · cases h; simp [Unq.say] at h5
    · exfalso
      split at h
      · unfold stepEscaped at h
        repeat' split at h
        all_goals first | (cases h; done) | (cases h; simp [Unq.say, Unq.to] at h5)
      · split at h
        · unfold stepNumbered at h
          repeat' split at h
          all_goals first | (cases h; done) | (cases h; simp at h5)
        · first
            | (unfold stepCounting at h
               repeat' split at h
               all_goals first | (cases h; done) | (cases h; simp [Unq.say] at h5; done) | (cases h; exact hu h5))
            | (split at h
               · unfold stepCounting at h
                 repeat' split at h
                 all_goals first | (cases h; done) | (cases h; simp [Unq.say] at h5; done) | (cases h; exact hu h5)
               · first | (cases h; done) | (cases h; exact hu h5))

theorem unqS_local : ∀ (m : Nat) (l : Bs) (u : Unq) (pos : Nat) (t : Bs) (n : Nat) (z : Bs), l.length ≤ m → u.st ≠ 5 → u.qs → unqS (scan l) u pos = some (t, n) → unqS (scan (l.take (n - pos) ++ z)) u pos = some (t, n)
  | m, [], u, pos, t, n, z, _, _, _, h => by rw [scan_nil] at h; cases h
  | 0, c :: r, u, pos, t, n, z, hm, _, _, h => by simp at hm
  | m + 1, c :: r, u, pos, t, n, z, hm, hu5, hq, h => by
    have hne : (c :: r) ≠ [] := by simp
    have hw := decL_width (c :: r)
    have hle := decL_le (c :: r) hne
    have hlen := unqS_len _ _ _ _ _ _ (Nat.le_refl _) h
    cases hs : strayL (c :: r)
    · cases hu : stepU u (decL (c :: r)).1 with
      | none => rw [unqS_none _ hne hs u pos hu] at h; cases h
      | some u' =>
        obtain ⟨l, hl⟩ : ∃ l, l = c :: r := ⟨_, rfl⟩
        rw [← hl] at hne hw hle hlen hs hu h hm ⊢
        by_cases h5 : u'.st = 5
        · rw [unqS_end _ hne hs u u' pos hu h5] at h
          have hr := stepU_end hu h5 hu5 hq
          have hlow : atL l 0 < 128 := by
            by_cases hb : atL l 0 < 128
            · exact hb
            · have := decL_high l hb
              omega
          have hd1 : (decL l).2 = 1 := by rw [dec_low1 hlow]
          cases h
          have e1 : pos + 1 - pos = (decL l).2 := by omega
          rw [e1]
          have hne2 : l.take (decL l).2 ++ z ≠ [] := fun e => take_ne hne (show 0 < (decL l).2 from hw.1) (List.append_eq_nil_iff.1 e).1
          exact unqS_end _ hne2 (stray_local hne hs z) u u' pos (by rw [dec_local hne hs z]; exact hu) h5
        · rw [unqS_more _ hne hs u u' pos hu h5] at h
          have hlen2 := unqS_len _ _ _ _ _ _ (Nat.le_refl _) h
          have ih := unqS_local m _ u' _ t n z (by simp only [List.length_drop]; omega) h5 (stepU_qs hu hq) h
          have hcut : l.take (n - pos) ++ z = l.take (decL l).2 ++ ((l.drop (decL l).2).take (n - (pos + (decL l).2)) ++ z) := by
            rw [show n - pos = (decL l).2 + (n - (pos + (decL l).2)) from by omega, List.take_add, List.append_assoc]
          rw [hcut]
          have hne2 : ∀ q, l.take (decL l).2 ++ q ≠ [] := fun q => by simp [take_ne hne (show 0 < (decL l).2 by omega)]
          rw [unqS_more _ (hne2 _) (stray_local hne hs _) u u' pos (by rw [dec_local hne hs _]; exact hu) h5, dec_local hne hs]
          have hlt : (l.take (decL l).2).length = (decL l).2 := by rw [List.length_take]; omega
          have hd : (l.take (decL l).2 ++ ((l.drop (decL l).2).take (n - (pos + (decL l).2)) ++ z)).drop (decL l).2 = (l.drop (decL l).2).take (n - (pos + (decL l).2)) ++ z := by
            conv => lhs; arg 1; rw [← hlt]
            exact List.drop_left
          rw [hd]
          exact ih
    · rw [unqS_stray _ hne hs u pos] at h; cases h
theorem unq_local {l t : Bs} {n : Nat} (h : unquoteL l = some (t, n)) (z : Bs) : unquoteL (l.take n ++ z) = some (t, n) := by
  have := unqS_local l.length l Unq.start 0 t n z (Nat.le_refl _) (by decide) (.inl rfl) h
  rw [Nat.sub_zero] at this
  exact this

theorem signs_low : ∀ g ∈ signsL, g ≠ [] ∧ atL g 0 < 128 ∧ (32 : UInt8) ∉ g := by decide

theorem find_sub {α : Type} {p q : α → Bool} {x : α} : ∀ {l : List α}, l.find? p = some x → (∀ y ∈ l, q y = true → p y = true) → q x = true → l.find? q = some x
  | y :: l, h, hs, hx => by
    rw [List.find?_cons] at h
    split at h
    · cases h; simp [hx]
    · rename_i hp
      have hq : q y = false := by
        cases hq : q y
        · rfl
        · have := hs y (by simp) hq; rw [hp] at this; cases this
      simp only [List.find?_cons, hq]
      exact find_sub h (fun z hz => hs z (by simp [hz])) hx

/-- what may stand behind. -/
structure Stop (l : Bs) (x : Tk × Nat) (z : Bs) (sc : Bool) : Prop where
  on : x.1.1 = 1 ∨ x.1.1 = 2 ∨ x.1.1 = 3 → onL z sc = 0
  sg : ∀ g ∈ signsL, g.isPrefixOf (l.take x.2 ++ z) = true → g.isPrefixOf l = true

theorem next_local {l : Bs} {sc : Bool} {x : Tk × Nat} {z : Bs} (hl : l ≠ []) (h : nextL l sc = .ok x) (hz : Stop l x z sc) : nextL (l.take x.2 ++ z) sc = .ok x := by
  have hlen := next_len hl h
  have hne : l.take x.2 ++ z ≠ [] := by simp [take_ne hl (show 0 < x.2 by omega)]
  have hat : atL (l.take x.2 ++ z) 0 = atL l 0 := by rw [atL_app0 (take_ne hl (by omega)), atL_take0 (by omega)]
  have h' := h
  unfold nextL at h
  split at h
  · rename_i h1
    have e2 : x.2 = nameL l sc := by cases h; rfl
    have hk : x.1.1 = 1 ∨ x.1.1 = 2 ∨ x.1.1 = 3 := by
      cases h
      simp only
      split
      · exact .inr (.inl rfl)
      · exact .inl rfl
    have hn := name_local h1 (hz.on hk)
    rw [← e2] at hn
    unfold nextL
    rw [hn, e2, if_pos h1]
    cases h
    have ht : (l.take (nameL l sc) ++ z).take (nameL l sc) = l.take (nameL l sc) := by
      have hlt : (l.take (nameL l sc)).length = nameL l sc := by rw [List.length_take]; have := nameL_le l sc; omega
      conv => lhs; arg 1; rw [← hlt]
      exact List.take_left
    rw [ht]
  · rename_i h1
    have hbl : begL l sc = 0 := by
      by_cases e : begL l sc = 0
      · exact e
      · exfalso
        apply h1
        unfold nameL
        rw [if_neg e]
        omega
    have nm : ∀ (hlow : atL l 0 < 128), nameL (l.take x.2 ++ z) sc = 0 := fun hlow => by
      unfold nameL
      rw [beg_low hl hne hlow hat, if_pos hbl]
    split at h
    · rename_i h2
      have hlow : atL l 0 < 128 := by unfold digC at h2; simp at h2; omega
      unfold nextL
      rw [nm hlow, if_neg (by omega), hat, if_pos h2]
      unfold numbL at h ⊢
      split at h
      · cases h
      · rename_i h3
        split at h
        · cases h
        · rename_i h4
          cases h
          obtain ⟨hb0, hd0⟩ := on_zero (hz.on (.inr (.inr rfl)))
          simp only at hat hne ⊢
          rw [digs_local hd0, hat]
          have hdr : (l.take (digsL l).length ++ z).drop (digsL l).length = z := by
            have hlt : (l.take (digsL l).length).length = (digsL l).length := by rw [List.length_take]; have := digsL_le l; omega
            conv => lhs; arg 1; rw [← hlt]
            exact List.drop_left
          rw [hdr, hb0, if_neg (fun hc => h3 (.inl (hc.resolve_right (by omega)))), if_neg h4]
    · rename_i h2
      split at h
      · rename_i h3
        have hlow : atL l 0 < 128 := by omega
        unfold nextL
        rw [nm hlow, if_neg (by omega), hat, if_neg h2, if_pos h3]
        unfold unqNx at h ⊢
        split at h
        · rename_i y hy
          cases h
          rw [unq_local (t := y.1) (n := y.2) hy z]
        · cases h
      · rename_i h3
        unfold signNx at h
        split at h
        · rename_i g hg
          cases h
          have hm := List.mem_of_find?_eq_some hg
          have hp := List.find?_some hg
          obtain ⟨g0, glow, _⟩ := signs_low g hm
          obtain ⟨r, hr⟩ := List.isPrefixOf_iff_prefix.1 hp
          have hlow : atL l 0 < 128 := by rw [← hr, atL_app0 g0]; exact glow
          unfold nextL
          rw [nm hlow, if_neg (by omega), hat, if_neg h2, if_neg h3]
          unfold signNx
          have htk : l.take g.length = g := by rw [← hr]; exact List.take_left
          rw [find_sub hg (fun y hy hq => hz.sg y hy hq) (by
            show List.isPrefixOf g (l.take g.length ++ z) = true
            rw [htk]
            exact List.isPrefixOf_iff_prefix.2 ⟨z, rfl⟩)]
        · cases h

end Go.Proofs.YtmfgcaffdkakhaaGreat
namespace Go.Proofs.YtmfgcaffdkakhaaGreat
set_option linter.unusedVariables false

/-- the reading, step by step. -/
theorem lex_step {a : Nat} {l : Bs} {sc : Bool} {ts : List (Tk × Nat)} (h : lexL a l sc = .ok ts) :
    (pastL l).2 = true ∧ ((l.drop (pastL l).1 = [] ∧ ts = []) ∨ ∃ x ts', l.drop (pastL l).1 ≠ [] ∧ nextL (l.drop (pastL l).1) sc = .ok x ∧ lexL (a + (pastL l).1 + x.2) (l.drop ((pastL l).1 + x.2)) sc = .ok ts' ∧ ts = (x.1, a + (pastL l).1) :: ts') := by
  rw [lexL_eq] at h
  split at h
  · cases h
  · rename_i h1
    refine ⟨by simpa using h1, ?_⟩
    split at h
    · rename_i h2
      cases h
      exact .inl ⟨h2, rfl⟩
    · rename_i h2
      cases hx : nextL (l.drop (pastL l).1) sc with
      | error e => rw [hx] at h; cases h
      | ok x =>
        rw [hx] at h
        simp only at h
        cases hy : lexL (a + (pastL l).1 + x.2) (l.drop ((pastL l).1 + x.2)) sc with
        | error e => rw [hy] at h; cases h
        | ok ts' =>
          rw [hy] at h
          cases h
          exact .inr ⟨x, ts', h2, rfl, hy, rfl⟩
theorem lex_made {a : Nat} {l : Bs} {sc : Bool} {x : Tk × Nat} {ts' : List (Tk × Nat)} (h1 : (pastL l).2 = true) (h2 : l.drop (pastL l).1 ≠ []) (h3 : nextL (l.drop (pastL l).1) sc = .ok x) (h4 : lexL (a + (pastL l).1 + x.2) (l.drop ((pastL l).1 + x.2)) sc = .ok ts') :
    lexL a l sc = .ok ((x.1, a + (pastL l).1) :: ts') := by
  rw [lexL_eq, if_neg (by rw [h1]; simp), if_neg h2, h3]
  simp only
  rw [h4]
  rfl
theorem lex_end {a : Nat} {l : Bs} {sc : Bool} (h1 : (pastL l).2 = true) (h2 : l.drop (pastL l).1 = []) : lexL a l sc = .ok [] := by
  rw [lexL_eq, if_neg (by rw [h1]; simp), if_pos h2]

/-- what begins a source that is read is no sign 36. -/
theorem dollar_bad {a : Nat} {r : Bs} {ts : List (Tk × Nat)} (h : lexL a (36 :: r) false = .ok ts) : False := by
  have hp : pastL (36 :: r) = (0, true) := by
    rw [pastL_cons, if_neg (by decide), if_neg (fun h => absurd h.1 (by decide)), if_neg (fun h => absurd h.1 (by decide))]
  have hx : nextL (36 :: r) false = .error 40 := by
    have ha : atL (36 :: r) 0 = 36 := rfl
    have hb : begL (36 :: r) false = 0 := by
      unfold begL
      have hd : decL (36 :: r) = (36, 1) := dec_low1 (by rw [ha]; omega)
      unfold strayL
      rw [if_neg (by simp), ha, hd]
      decide
    have hn : nameL (36 :: r) false = 0 := by unfold nameL; rw [if_pos hb]
    unfold nextL
    rw [hn, if_neg (by omega), ha, if_neg (by decide), if_neg (by omega)]
    unfold signNx
    have : signsL.find? (fun g => g.isPrefixOf (36 :: r)) = none := by
      rw [List.find?_eq_none]
      have hall : ∀ g ∈ signsL, g.head? ≠ some 36 ∧ g ≠ [] := by decide
      intro g hg hpre
      obtain ⟨h1, h2⟩ := hall g hg
      cases g with
      | nil => exact h2 rfl
      | cons c q =>
        simp [List.isPrefixOf] at hpre
        exact h1 (by simp [hpre.1])
    rw [this]
  obtain ⟨_, h2⟩ := lex_step h
  rw [hp] at h2
  rcases h2 with ⟨h2, _⟩ | ⟨x, ts', _, h3, _⟩
  · simp at h2
  · rw [List.drop_zero, hx] at h3; cases h3

theorem beg_sc {l : Bs} (h : l = [] ∨ atL l 0 ≠ 36) : begL l true = begL l false := by
  unfold begL
  rcases h with rfl | h
  · rfl
  · simp [h]
theorem beg_sc_pos {l : Bs} (h : begL l false ≠ 0) : begL l true = begL l false := by
  apply beg_sc
  by_cases hl : l = []
  · exact .inl hl
  · refine .inr fun e => h ?_
    unfold begL
    have hd : decL l = (36, 1) := by rw [dec_low1 (by omega), e]
    unfold strayL
    rw [if_neg hl, e, hd]
    decide
theorem on_sc_pos {l : Bs} (h : onL l false ≠ 0) : onL l true = onL l false := by
  by_cases hb : begL l false ≠ 0
  · unfold onL
    rw [beg_sc_pos hb]
  · have hb0 : begL l false = 0 := by omega
    by_cases hd : l ≠ [] ∧ digC (atL l 0) = true
    · have h36 : atL l 0 ≠ 36 := fun e => by rw [e] at hd; exact absurd hd.2 (by decide)
      unfold onL
      rw [beg_sc (.inr h36)]
    · exfalso
      apply h
      unfold onL
      rw [if_neg hb, if_neg hd]
theorem on_sc {l : Bs} (h : l = [] ∨ atL l 0 ≠ 36) : onL l true = onL l false := by unfold onL; rw [beg_sc h]
theorem tail_sc : ∀ (m : Nat) (l : Bs), l.length ≤ m → (l.drop (tailL l false) = [] ∨ atL (l.drop (tailL l false)) 0 ≠ 36) → tailL l true = tailL l false := by
  intro m
  induction m with
  | zero =>
    intro l hm _
    have hl : l = [] := List.eq_nil_of_length_eq_zero (by omega)
    subst hl
    rfl
  | succ m ih =>
    intro l hm h
    by_cases h0 : onL l false = 0
    · have e : tailL l false = 0 := by rw [tailL_eq, if_pos h0]
      rw [e, List.drop_zero] at h
      rw [e, tailL_eq, on_sc h, if_pos h0]
    · have hle := onL_le l false
      have e : tailL l false = onL l false + tailL (l.drop (onL l false)) false := by rw [tailL_eq, if_neg h0]
      rw [e, ← List.drop_drop] at h
      have := ih (l.drop (onL l false)) (by simp; omega) h
      rw [e, tailL_eq, on_sc_pos h0, if_neg h0, this]
theorem next_sc {l : Bs} {x : Tk × Nat} (h : nextL l false = .ok x) (hd : l.drop x.2 = [] ∨ atL (l.drop x.2) 0 ≠ 36) : nextL l true = .ok x := by
  have h' := h
  unfold nextL at h
  split at h
  · rename_i h1
    have hb : begL l false ≠ 0 := fun e => by unfold nameL at h1; rw [if_pos e] at h1; omega
    have e : nameL l false = begL l false + tailL (l.drop (begL l false)) false := by unfold nameL; rw [if_neg hb]
    have hx2 : x.2 = nameL l false := by cases h; rfl
    rw [hx2, e, ← List.drop_drop] at hd
    have hn : nameL l true = nameL l false := by
      unfold nameL
      rw [beg_sc_pos hb, tail_sc _ _ (Nat.le_refl _) hd]
    unfold nextL
    rw [hn, if_pos h1]
    exact h
  · rename_i h1
    have hbl : begL l false = 0 := by
      by_cases e : begL l false = 0
      · exact e
      · exfalso
        apply h1
        unfold nameL
        rw [if_neg e]
        omega
    by_cases h36 : l = [] ∨ atL l 0 ≠ 36
    · have hn : nameL l true = 0 := by unfold nameL; rw [beg_sc h36, if_pos hbl]
      unfold nextL
      rw [hn, if_neg (by omega)]
      split at h
      · rename_i h2
        rw [if_pos h2]
        unfold numbL at h ⊢
        have hx : x.2 = (digsL l).length := by
          split at h
          · cases h
          · split at h
            · cases h
            · cases h; rfl
        rw [hx] at hd
        rw [beg_sc hd]
        exact h
      · rename_i h2
        rw [if_neg h2]
        exact h
    · exfalso
      have h3 : l ≠ [] ∧ atL l 0 = 36 := by
        refine ⟨fun e => h36 (.inl e), ?_⟩
        by_cases e : atL l 0 = 36
        · exact e
        · exact absurd (.inr e) h36
      cases l with
      | nil => exact h3.1 rfl
      | cons c r =>
        have hc : c = 36 := UInt8.toNat_inj.1 (by simpa [atL] using h3.2)
        subst hc
        have hb : digC (atL (36 :: r) 0) = false := by rw [h3.2]; decide
        rw [if_neg (by rw [hb]; simp), if_neg (by rw [h3.2]; omega)] at h
        unfold signNx at h
        split at h
        · rename_i g hg
          have hm := List.mem_of_find?_eq_some hg
          have hp := List.find?_some hg
          have hall : ∀ g ∈ signsL, g.head? ≠ some 36 ∧ g ≠ [] := by decide
          obtain ⟨q1, q2⟩ := hall g hm
          cases g with
          | nil => exact q2 rfl
          | cons c q =>
            simp [List.isPrefixOf] at hp
            exact q1 (by simp [hp.1])
        · cases h
theorem scripts : ∀ (m a : Nat) (l : Bs) (ts : List (Tk × Nat)), l.length ≤ m → lexL a l false = .ok ts → lexL a l true = .ok ts := by
  intro m
  induction m with
  | zero =>
    intro a l ts hm h
    have hl : l = [] := List.eq_nil_of_length_eq_zero (by omega)
    subst hl
    obtain ⟨h1, h2⟩ := lex_step h
    rcases h2 with ⟨h2, rfl⟩ | ⟨x, ts', h2, _⟩
    · exact lex_end h1 h2
    · exact absurd (by simp) h2
  | succ m ih =>
    intro a l ts hm h
    obtain ⟨h1, h2⟩ := lex_step h
    rcases h2 with ⟨h2, rfl⟩ | ⟨x, ts', h2, h3, h4, rfl⟩
    · exact lex_end h1 h2
    · have hlen := next_len h2 h3
      simp only [List.length_drop] at hlen
      have h5 := ih _ _ ts' (by simp; omega) h4
      refine lex_made h1 h2 (next_sc h3 ?_) h5
      rw [List.drop_drop]
      by_cases he : l.drop ((pastL l).1 + x.2) = []
      · exact .inl he
      · refine .inr fun e => ?_
        cases hr : l.drop ((pastL l).1 + x.2) with
        | nil => exact he hr
        | cons c r =>
          rw [hr] at e h4
          have hc : c = 36 := UInt8.toNat_inj.1 (by simpa [atL] using e)
          subst hc
          exact dollar_bad h4

/-- what is told of the places: each begins behind 'last', within the source, at no blank; the text stands there. -/
def rising (s : Bs) : Int → List (Tk × Nat) → Prop
  | _, [] => True
  | last, x :: ts => last < (x.2 : Int) ∧ x.2 < s.length ∧ 32 < atL s x.2 ∧
      (x.1.1 = 1 ∨ x.1.1 = 2 ∨ x.1.1 = 5 → x.1.2.1.length ≤ s.length - x.2 ∧ (s.drop x.2).take x.1.2.1.length = x.1.2.1) ∧
      rising s (if x.1.1 = 1 ∨ x.1.1 = 2 ∨ x.1.1 = 5 then (x.2 : Int) + x.1.2.1.length - 1 else (x.2 : Int)) ts
end Go.Proofs.YtmfgcaffdkakhaaGreat
namespace Go.Proofs.YtmfgcaffdkakhaaGreat
set_option linter.unusedVariables false

/-- places apart. -/
def kinds (ts : List (Tk × Nat)) : List Tk := ts.map Prod.fst
theorem shift : ∀ (m a b : Nat) (l : Bs) (sc : Bool) (ts : List (Tk × Nat)), l.length ≤ m → lexL a l sc = .ok ts → ∃ ts', lexL b l sc = .ok ts' ∧ kinds ts' = kinds ts := by
  intro m
  induction m with
  | zero =>
    intro a b l sc ts hm h
    obtain ⟨h1, h2⟩ := lex_step h
    rcases h2 with ⟨h2, rfl⟩ | ⟨x, ts', h2, _⟩
    · exact ⟨[], lex_end h1 h2, rfl⟩
    · exact absurd (List.drop_eq_nil_of_le (by omega)) h2
  | succ m ih =>
    intro a b l sc ts hm h
    obtain ⟨h1, h2⟩ := lex_step h
    rcases h2 with ⟨h2, rfl⟩ | ⟨x, ts', h2, h3, h4, rfl⟩
    · exact ⟨[], lex_end h1 h2, rfl⟩
    · have hlen := next_len h2 h3
      simp only [List.length_drop] at hlen
      obtain ⟨ts2, h5, h6⟩ := ih _ (b + (pastL l).1 + x.2) _ sc ts' (by simp; omega) h4
      exact ⟨_, lex_made h1 h2 h3 h5, by simp [kinds] at h6 ⊢; exact h6⟩

theorem past_none {c : UInt8} {r : Bs} (h : pastL (c :: r) = (0, true)) : isBl c = false ∧ ¬ (c = 47 ∧ r.head? = some 47) ∧ ¬ (c = 47 ∧ r.head? = some 42) := by
  rw [pastL_cons] at h
  split at h
  · simp at h
  · rename_i h1
    split at h
    · simp at h
    · rename_i h2
      split at h
      · split at h
        · simp at h
        · simp at h
      · rename_i h3
        exact ⟨by simpa using h1, h2, h3⟩
theorem past_here {c : UInt8} {r : Bs} (h1 : isBl c = false) (h2 : ¬ (c = 47 ∧ r.head? = some 47)) (h3 : ¬ (c = 47 ∧ r.head? = some 42)) : pastL (c :: r) = (0, true) := by
  rw [pastL_cons, if_neg (by rw [h1]; simp), if_neg h2, if_neg h3]

theorem lineL_app : ∀ (r q : Bs), lineL r < r.length → lineL (r ++ q) = lineL r
  | [], q, h => by simp at h
  | c :: r, q, h => by
    by_cases hc : c = 10
    · simp [lineL, hc]
    · simp only [lineL, hc, if_false, List.cons_append, List.length_cons] at h ⊢
      rw [lineL_app r q (by omega)]
theorem noteL_app : ∀ (r q : Bs) (k : Nat), noteL r = some k → noteL (r ++ q) = some k
  | c :: r, q, k, h => by
    unfold noteL at h
    split at h
    · rename_i hc
      have : (r ++ q).head? = some 47 := by
        cases r with
        | nil => simp at hc
        | cons d r => simpa using hc.2
      simp only [List.cons_append]
      unfold noteL
      rw [if_pos ⟨hc.1, this⟩]
      exact h
    · rename_i hc
      cases hn : noteL r with
      | none => rw [hn] at h; cases h
      | some j =>
        rw [hn] at h
        have ih := noteL_app r q j hn
        simp only [List.cons_append]
        unfold noteL
        rw [if_neg, ih]
        · exact h
        · rintro ⟨h1, h2⟩
          cases r with
          | nil => simp [noteL] at hn
          | cons d r => exact hc ⟨h1, by simpa using h2⟩

theorem line_end : ∀ {r : Bs} {d : UInt8} {t : Bs}, r.drop (lineL r) = d :: t → d = 10
  | [], d, t, h => by simp at h
  | c :: r, d, t, h => by
    by_cases hc : c = 10
    · simp [lineL, hc] at h; exact h.1.symm
    · simp only [lineL, hc, if_false, List.drop_succ_cons] at h
      exact line_end h
theorem line_take : ∀ {r : Bs} {n : Nat}, lineL r < r.length → lineL r < n → lineL (r.take n) = lineL r
  | [], n, h, _ => by simp at h
  | c :: r, n, h, hn => by
    cases n with
    | zero => omega
    | succ n =>
      by_cases hc : c = 10
      · simp [lineL, hc]
      · simp only [lineL, hc, if_false, List.length_cons, List.take_succ_cons] at h hn ⊢
        rw [line_take (by omega) (by omega)]
theorem note_take : ∀ {r : Bs} {j : Nat}, noteL r = some j → noteL (r.take j) = some j
  | c :: r, j, h => by
    unfold noteL at h
    split at h
    · rename_i hc
      cases h
      cases r with
      | nil => simp at hc
      | cons d t =>
        simp only [List.take_succ_cons, List.take_zero]
        unfold noteL
        rw [if_pos ⟨hc.1, by simpa using hc.2⟩]
    · rename_i hc
      cases hn : noteL r with
      | none => rw [hn] at h; cases h
      | some i =>
        rw [hn] at h
        cases h
        have ih := note_take hn
        have hi := noteL_le _ _ hn
        simp only [List.take_succ_cons]
        unfold noteL
        rw [if_neg, ih]
        · rfl
        · rintro ⟨h1, h2⟩
          apply hc
          refine ⟨h1, ?_⟩
          cases r with
          | nil => simp [noteL] at hn
          | cons d t =>
            cases i with
            | zero => omega
            | succ i => simpa using h2

/-- what is passed over ends where it ends, whatever stands behind. -/
theorem past_app : ∀ (m : Nat) (l q : Bs), l.length ≤ m → (pastL l).2 = true → (pastL l).1 < l.length → pastL (l.take (pastL l).1 ++ q) = ((pastL l).1 + (pastL q).1, (pastL q).2) ∧ pastL (l.drop (pastL l).1) = (0, true) := by
  intro m
  induction m with
  | zero => intro l q hm _ h; omega
  | succ m ih =>
    intro l q hm h1 h2
    cases l with
    | nil => simp at h2
    | cons c r =>
      simp only [List.length_cons] at hm h2
      have hpc := pastL_cons c r
      split at hpc
      · rename_i hb
        rw [hpc] at h1 h2 ⊢
        simp only at h1 h2
        obtain ⟨i1, i2⟩ := ih r q (by omega) h1 (by omega)
        constructor
        · simp only [List.take_succ_cons, List.cons_append]
          rw [pastL_cons, if_pos hb, i1]
          simp only [Prod.mk.injEq, and_true]
          omega
        · simpa using i2
      · rename_i hb
        split at hpc
        · rename_i hl
          rw [hpc] at h1 h2 ⊢
          simp only at h1 h2
          have hle := lineL_le r
          have hlt : lineL r < r.length := by omega
          obtain ⟨i1, i2⟩ := ih (r.drop (lineL r)) q (by simp; omega) h1 (by simp only [List.length_drop]; omega)
          have hne : r ≠ [] := fun e => by rw [e] at hl; simp at hl
          obtain ⟨k, hk⟩ : ∃ k, k = (pastL (r.drop (lineL r))).1 := ⟨_, rfl⟩
          rw [← hk] at i1 i2 h2 ⊢
          have hkp : 0 < k := by
            -- ahead of the line's end stands the line's end itself: it is passed over
            cases hd : r.drop (lineL r) with
            | nil => rw [List.drop_eq_nil_iff] at hd; omega
            | cons d t =>
              have hd10 : d = 10 := line_end hd
              rw [hd, pastL_cons, hd10, if_pos (by decide)] at hk
              omega
          have htk : (c :: r).take (k + (lineL r + 1)) = c :: (r.take (lineL r) ++ (r.drop (lineL r)).take k) := by
            rw [show k + (lineL r + 1) = (lineL r + k) + 1 from by omega, List.take_succ_cons, List.take_add]
          constructor
          · rw [htk]
            simp only [List.cons_append, List.append_assoc]
            rw [pastL_cons, if_neg hb]
            have hh : (r.take (lineL r) ++ ((r.drop (lineL r)).take k ++ q)).head? = some 47 := by
              have h47 := hl.2
              cases r with
              | nil => exact absurd rfl hne
              | cons d t =>
                have hd : d = 47 := by simpa using h47
                subst hd
                have : lineL (47 :: t) = lineL t + 1 := by simp [lineL]
                rw [this]
                simp
            have hl2 : lineL (r.take (lineL r) ++ ((r.drop (lineL r)).take k ++ q)) = lineL r := by
              have e : r.take (lineL r) ++ ((r.drop (lineL r)).take k ++ q) = r.take (lineL r + k) ++ q := by rw [List.take_add, List.append_assoc]
              rw [e]
              have hlt2 : lineL (r.take (lineL r + k)) = lineL r := line_take hlt (by omega)
              rw [lineL_app _ _ (by rw [hlt2, List.length_take]; omega), hlt2]
            rw [if_pos ⟨hl.1, hh⟩, hl2]
            have hdr : (r.take (lineL r) ++ ((r.drop (lineL r)).take k ++ q)).drop (lineL r) = (r.drop (lineL r)).take k ++ q := by
              have hlen : (r.take (lineL r)).length = lineL r := by rw [List.length_take]; omega
              conv => lhs; arg 1; rw [← hlen]
              exact List.drop_left
            rw [hdr, i1]
            simp only [Prod.mk.injEq, and_true]
            omega
          · rw [show k + (lineL r + 1) = (lineL r + k) + 1 from by omega, List.drop_succ_cons, ← List.drop_drop]
            exact i2
        · rename_i hl
          split at hpc
          · rename_i hn
            cases hnl : noteL r.tail with
            | none => rw [hnl] at hpc; rw [hpc] at h1; cases h1
            | some j =>
              rw [hnl] at hpc
              simp only at hpc
              rw [hpc] at h1 h2 ⊢
              simp only at h1 h2
              have hj := noteL_le _ _ hnl
              simp only [List.length_tail] at hj
              obtain ⟨i1, i2⟩ := ih (r.tail.drop j) q (by simp; omega) h1 (by simp only [List.length_drop, List.length_tail]; omega)
              cases r with
              | nil => simp at hn
              | cons d t =>
                simp only [List.tail_cons] at hnl i1 i2 h2 hj ⊢
                obtain ⟨k, hk⟩ : ∃ k, k = (pastL (t.drop j)).1 := ⟨_, rfl⟩
                rw [← hk] at i1 i2 h2 ⊢
                have hj2 : j ≤ t.length := by have := (noteL_le _ _ hnl).2; exact this
                have htk : (c :: d :: t).take (k + (j + 2)) = c :: d :: (t.take j ++ (t.drop j).take k) := by
                  rw [show k + (j + 2) = (j + k) + 1 + 1 from by omega, List.take_succ_cons, List.take_succ_cons, List.take_add]
                constructor
                · rw [htk]
                  simp only [List.cons_append, List.append_assoc]
                  rw [pastL_cons, if_neg hb, if_neg (by rintro ⟨a1, a2⟩; exact hl ⟨a1, by simpa using a2⟩), if_pos ⟨hn.1, by simpa using hn.2⟩]
                  simp only [List.tail_cons]
                  have hn2 : noteL (t.take j ++ ((t.drop j).take k ++ q)) = some j := by
                    have h0 := note_take hnl
                    exact noteL_app _ _ _ h0
                  rw [hn2]
                  have hdr : (t.take j ++ ((t.drop j).take k ++ q)).drop j = (t.drop j).take k ++ q := by
                    have hlen : (t.take j).length = j := by rw [List.length_take]; omega
                    conv => lhs; arg 1; rw [← hlen]
                    exact List.drop_left
                  simp only
                  rw [hdr, i1]
                  simp only [Prod.mk.injEq, and_true]
                  omega
                · rw [show k + (j + 2) = (j + k) + 1 + 1 from by omega, List.drop_succ_cons, List.drop_succ_cons, ← List.drop_drop]
                  exact i2
          · rename_i hn
            rw [hpc]
            simp only [List.take_zero, List.nil_append, List.drop_zero]
            exact ⟨by simp, hpc⟩

end Go.Proofs.YtmfgcaffdkakhaaGreat
namespace Go.Proofs.YtmfgcaffdkakhaaGreat
set_option linter.unusedVariables false

theorem pre_cut {g A B : Bs} (h : g.isPrefixOf (A ++ 32 :: B) = true) (h32 : 32 ∉ g) : g.isPrefixOf A = true := by
  obtain ⟨r, hr⟩ := List.isPrefixOf_iff_prefix.1 h
  apply List.isPrefixOf_iff_prefix.2
  rcases Nat.lt_or_ge A.length g.length with hl | hl
  · exfalso
    apply h32
    have e : g[A.length]? = some 32 := by
      have h1 : (g ++ r)[A.length]? = (A ++ 32 :: B)[A.length]? := by rw [hr]
      rw [List.getElem?_append_left hl, List.getElem?_append_right (Nat.le_refl _)] at h1
      simpa using h1
    exact List.mem_of_getElem? e
  · exact List.prefix_of_prefix_length_le ⟨r, hr⟩ ⟨32 :: B, rfl⟩ hl
theorem pre_more {g A : Bs} (B : Bs) (h : g.isPrefixOf A = true) : g.isPrefixOf (A ++ B) = true := by
  obtain ⟨r, hr⟩ := List.isPrefixOf_iff_prefix.1 h
  exact List.isPrefixOf_iff_prefix.2 ⟨r ++ B, by rw [← List.append_assoc, hr]⟩

theorem on_32 (r : Bs) (sc : Bool) : onL (32 :: r) sc = 0 := by
  have ha : atL (32 :: r) 0 = 32 := rfl
  have hb : begL (32 :: r) sc = 0 := by
    unfold begL strayL
    rw [if_neg (by simp), ha, dec_low1 (by rw [ha]; omega), ha]
    rw [if_neg (by omega), if_neg (by decide)]
  unfold onL
  rw [if_neg (by omega), ha, if_neg (fun h => absurd h.2 (by decide))]
theorem on_low {l m : Bs} (hl : l ≠ []) (hm : m ≠ []) (h : atL l 0 < 128) (he : atL m 0 = atL l 0) (sc : Bool) : onL m sc = onL l sc := by
  unfold onL
  rw [beg_low hl hm h he, he]
  simp [hl, hm]
theorem tail_stop : ∀ (m : Nat) (l : Bs) (sc : Bool), l.length ≤ m → onL (l.drop (tailL l sc)) sc = 0 := by
  intro m
  induction m with
  | zero =>
    intro l sc hm
    have hl : l = [] := List.eq_nil_of_length_eq_zero (by omega)
    subst hl
    simp [onL, begL]
  | succ m ih =>
    intro l sc hm
    by_cases h0 : onL l sc = 0
    · have e : tailL l sc = 0 := by rw [tailL_eq, if_pos h0]
      rw [e]
      exact h0
    · have hle := onL_le l sc
      have e : tailL l sc = onL l sc + tailL (l.drop (onL l sc)) sc := by rw [tailL_eq, if_neg h0]
      rw [e, ← List.drop_drop]
      exact ih _ sc (by simp; omega)
theorem digs_stop (l : Bs) : l.drop (digsL l).length = [] ∨ digC (atL (l.drop (digsL l).length) 0) = false := by
  induction l with
  | nil => exact .inl rfl
  | cons c r ih =>
    cases hc : digC c.toNat
    · right
      simp [digsL, hc, atL]
    · have e : digsL (c :: r) = c :: digsL r := by simp [digsL, hc]
      rw [e]
      simpa using ih
theorem next_stop {l : Bs} {sc : Bool} {x : Tk × Nat} (h : nextL l sc = .ok x) (hk : x.1.1 = 1 ∨ x.1.1 = 2 ∨ x.1.1 = 3) : onL (l.drop x.2) sc = 0 := by
  unfold nextL at h
  split at h
  · rename_i h1
    have hb : begL l sc ≠ 0 := fun e => by unfold nameL at h1; rw [if_pos e] at h1; omega
    have e : nameL l sc = begL l sc + tailL (l.drop (begL l sc)) sc := by unfold nameL; rw [if_neg hb]
    have hx2 : x.2 = nameL l sc := by cases h; rfl
    rw [hx2, e, ← List.drop_drop]
    exact tail_stop _ _ sc (Nat.le_refl _)
  · split at h
    · unfold numbL at h
      split at h
      · cases h
      · rename_i h3
        split at h
        · cases h
        · cases h
          have hb : begL (l.drop (digsL l).length) sc = 0 := by
            have : ¬ 0 < begL (l.drop (digsL l).length) sc := fun hc => h3 (.inr hc)
            omega
          have hd := digs_stop l
          unfold onL
          rw [if_neg (by simp only; omega), if_neg]
          rintro ⟨a1, a2⟩
          rcases hd with hd | hd
          · exact a1 hd
          · simp only at a2; rw [hd] at a2; cases a2
    · split at h
      · unfold unqNx at h
        split at h
        · cases h; simp at hk
        · cases h
      · unfold signNx at h
        split at h
        · cases h; simp at hk
        · cases h
theorem high_name {l : Bs} {sc : Bool} {x : Tk × Nat} (hl : l ≠ []) (h : nextL l sc = .ok x) (hh : ¬ atL l 0 < 128) : onL l sc ≠ 0 := by
  unfold nextL at h
  split at h
  · rename_i h1
    have hb : begL l sc ≠ 0 := fun e => by unfold nameL at h1; rw [if_pos e] at h1; omega
    unfold onL
    rw [if_pos hb]
    exact hb
  · split at h
    · rename_i h2
      unfold digC at h2
      simp at h2
      omega
    · split at h
      · omega
      · unfold signNx at h
        split at h
        · rename_i g hg
          obtain ⟨g0, glow, _⟩ := signs_low g (List.mem_of_find?_eq_some hg)
          have hp := List.find?_some hg
          obtain ⟨r, hr⟩ := List.isPrefixOf_iff_prefix.1 hp
          rw [← hr, atL_app0 g0] at hh
          exact absurd glow hh
        · cases h
theorem past_high {l : Bs} (hl : l ≠ []) (h : ¬ atL l 0 < 128) : (pastL l).1 = 0 := by
  cases l with
  | nil => exact absurd rfl hl
  | cons c r =>
    have hc : ¬ c.toNat < 128 := by simpa [atL] using h
    have h1 : isBl c = false := by
      cases hb : isBl c
      · rfl
      · exfalso
        unfold isBl at hb
        simp at hb
        rcases hb with ((hb | hb) | hb) | hb <;> (subst hb; exact hc (by decide))
    have h2 : c ≠ 47 := fun e => by subst e; exact hc (by decide)
    rw [past_here h1 (fun h => h2 h.1) (fun h => h2 h.1)]
theorem places : ∀ (m a : Nat) (l : Bs) (sc : Bool) (ts : List (Tk × Nat)), l.length ≤ m → lexL a l sc = .ok ts → ∀ x ∈ ts, a ≤ x.2 ∧ x.2 < a + l.length := by
  intro m
  induction m with
  | zero =>
    intro a l sc ts hm h x hx
    obtain ⟨h1, h2⟩ := lex_step h
    rcases h2 with ⟨h2, rfl⟩ | ⟨y, ts', h2, _⟩
    · cases hx
    · exact absurd (List.drop_eq_nil_of_le (by omega)) h2
  | succ m ih =>
    intro a l sc ts hm h x hx
    obtain ⟨h1, h2⟩ := lex_step h
    rcases h2 with ⟨h2, rfl⟩ | ⟨y, ts', h2, h3, h4, rfl⟩
    · cases hx
    · have hlen := next_len h2 h3
      simp only [List.length_drop] at hlen
      rcases List.mem_cons.1 hx with rfl | hx
      · simp only; omega
      · have := ih _ _ sc ts' (by simp; omega) h4 x hx
        simp only [List.length_drop] at this
        omega

theorem drop_cut {l : Bs} {k : Nat} (hk : k ≤ l.length) (q : Bs) : (l.take k ++ q).drop k = q := by
  have hlen : (l.take k).length = k := by rw [List.length_take]; omega
  conv => lhs; arg 1; rw [← hlen]
  exact List.drop_left

theorem blanks (M : Bs) (hM : ∀ r, pastL ((32 :: M) ++ r) = ((32 :: M).length + (pastL r).1, (pastL r).2)) :
    ∀ (m a b : Nat) (l : Bs) (sc : Bool) (ts : List (Tk × Nat)) (w : Nat) (hw : w < ts.length), l.length ≤ m → lexL a l sc = .ok ts →
      ∃ ts', lexL b (l.take (ts[w].2 - a) ++ ((32 :: M) ++ l.drop (ts[w].2 - a))) sc = .ok ts' ∧ kinds ts' = kinds ts := by
  intro m
  induction m with
  | zero =>
    intro a b l sc ts w hw hm h
    obtain ⟨h1, h2⟩ := lex_step h
    rcases h2 with ⟨h2, rfl⟩ | ⟨y, ts', h2, _⟩
    · simp at hw
    · exact absurd (List.drop_eq_nil_of_le (by omega)) h2
  | succ m ih =>
    intro a b l sc ts w hw hm h
    obtain ⟨h1, h2⟩ := lex_step h
    rcases h2 with ⟨h2, rfl⟩ | ⟨x, ts', h2, h3, h4, rfl⟩
    · simp at hw
    · have hlen := next_len h2 h3
      simp only [List.length_drop] at hlen
      obtain ⟨k, hk⟩ : ∃ k, k = (pastL l).1 := ⟨_, rfl⟩
      have hp1 := fun q => (past_app l.length l q (Nat.le_refl _) h1 (by omega)).1
      have hp2 := (past_app l.length l [] (Nat.le_refl _) h1 (by omega)).2
      rw [← hk] at h2 h3 h4 hlen hp1 hp2 ⊢
      cases w with
      | zero =>
        simp only [List.getElem_cons_zero, Nat.add_sub_cancel_left]
        obtain ⟨ts2, h5, h6⟩ := shift _ _ (b + (k + (32 :: M).length) + x.2) _ sc ts' (Nat.le_refl _) h4
        have hpn : pastL (l.take k ++ ((32 :: M) ++ l.drop k)) = (k + (32 :: M).length, true) := by
          rw [hp1, hM, hp2]
          rfl
        have hd1 : (l.take k ++ ((32 :: M) ++ l.drop k)).drop (k + (32 :: M).length) = l.drop k := by
          rw [← List.drop_drop, drop_cut (by omega)]
          exact List.drop_left
        have hd2 : (l.take k ++ ((32 :: M) ++ l.drop k)).drop (k + (32 :: M).length + x.2) = l.drop (k + x.2) := by
          rw [← List.drop_drop, hd1, List.drop_drop]
        refine ⟨_, lex_made (x := x) (by rw [hpn]) (by rw [hpn]; simp only; rw [hd1]; exact h2) (by rw [hpn]; simp only; rw [hd1]; exact h3) (ts' := ts2) (by rw [hpn]; simp only; rw [hd2]; exact h5), ?_⟩
        simp [kinds] at h6 ⊢
        exact h6
      | succ w =>
        simp only [List.getElem_cons_succ]
        have hw' : w < ts'.length := by simpa using hw
        have hpl := places _ _ _ sc ts' (Nat.le_refl _) h4 ts'[w] (List.getElem_mem hw')
        simp only [List.length_drop] at hpl
        obtain ⟨p', hp'⟩ : ∃ p', p' = ts'[w].2 - (a + k + x.2) := ⟨_, rfl⟩
        obtain ⟨ts2, h5, h6⟩ := ih (a + k + x.2) (b + k + x.2) (l.drop (k + x.2)) sc ts' w hw' (by simp; omega) h4
        rw [← hp'] at h5
        have e1 : ts'[w].2 - a = (k + x.2) + p' := by omega
        rw [e1]
        obtain ⟨l1, hl1⟩ : ∃ l1, l1 = l.drop (k + x.2) := ⟨_, rfl⟩
        rw [← hl1] at h4 h5
        obtain ⟨Z, hZ⟩ : ∃ Z, Z = l1.take p' ++ ((32 :: M) ++ l1.drop p') := ⟨_, rfl⟩
        have hcut : l.take (k + x.2 + p') ++ ((32 :: M) ++ l.drop (k + x.2 + p')) = l.take k ++ ((l.drop k).take x.2 ++ Z) := by
          rw [hZ, hl1, List.take_add, List.take_add, List.drop_drop, List.append_assoc, List.append_assoc]
        rw [hcut]
        have hl1n : p' < l1.length := by rw [hl1, List.length_drop]; omega
        have hl1ne : l1 ≠ [] := List.ne_nil_of_length_pos (by omega)
        have hsplit : l.drop k = (l.drop k).take x.2 ++ l1 := by
          rw [hl1, ← List.drop_drop, List.take_append_drop]
        obtain ⟨t1, t2⟩ := lex_step h4
        have hZh : p' = 0 ∨ (Z ≠ [] ∧ atL Z 0 = atL l1 0 ∧ Z.head? = l1.head?) := by
          by_cases hp0 : p' = 0
          · exact .inl hp0
          · right
            have hne : l1.take p' ≠ [] := take_ne hl1ne (by omega)
            refine ⟨fun e => hne (List.append_eq_nil_iff.1 (hZ ▸ e)).1, ?_, ?_⟩
            · rw [hZ, atL_app0 hne, atL_take0 (by omega)]
            · rw [hZ]
              cases l1 with
              | nil => exact absurd rfl hl1ne
              | cons c r =>
                cases p' with
                | zero => exact absurd rfl hp0
                | succ p' => simp
        have hZ0 : p' = 0 → Z = 32 :: (M ++ l1) := fun e => by rw [hZ, e]; simp
        have hstop : Stop (l.drop k) x Z sc := by
          constructor
          · intro hkind
            have hon := next_stop h3 hkind
            rw [List.drop_drop, ← hl1] at hon
            rcases hZh with hp0 | ⟨zn, za, _⟩
            · rw [hZ0 hp0]; exact on_32 _ sc
            · by_cases hlow : atL l1 0 < 128
              · rw [on_low hl1ne zn hlow za]; exact hon
              · exfalso
                rcases t2 with ⟨t2, _⟩ | ⟨y, ts3, q2, q3, _⟩
                · have hpz : (pastL l1).1 = 0 := past_high hl1ne hlow
                  rw [hpz, List.drop_zero] at t2
                  exact hl1ne t2
                · have hpz : (pastL l1).1 = 0 := past_high hl1ne hlow
                  rw [hpz, List.drop_zero] at q2 q3
                  exact high_name q2 q3 hlow hon
          · intro g hg hpre
            obtain ⟨_, _, h32⟩ := signs_low g hg
            rw [hZ, ← List.append_assoc] at hpre
            have h7 := pre_cut (A := (l.drop k).take x.2 ++ l1.take p') (B := M ++ l1.drop p') (by simpa using hpre) h32
            have h8 := pre_more (l1.drop p') h7
            rw [List.append_assoc, List.take_append_drop, ← hsplit] at h8
            exact h8
        have hnx := next_local h2 h3 hstop
        have hqne : (l.drop k).take x.2 ++ Z ≠ [] := fun e => take_ne h2 (show 0 < x.2 by omega) (List.append_eq_nil_iff.1 e).1
        have hpq : pastL ((l.drop k).take x.2 ++ Z) = (0, true) := by
          cases hc : l.drop k with
          | nil => exact absurd hc h2
          | cons c r =>
            rw [hc] at hp2 hsplit
            obtain ⟨g1, g2, g3⟩ := past_none hp2
            obtain ⟨n, hn⟩ : ∃ n, x.2 = n + 1 := ⟨x.2 - 1, by omega⟩
            rw [hn] at hsplit ⊢
            simp only [List.take_succ_cons, List.cons_append] at hsplit ⊢
            have hr : r = r.take n ++ l1 := by injection hsplit
            have hh : (r.take n ++ Z).head? = r.head? ∨ (r.take n ++ Z).head? = some 32 := by
              cases hrt : r.take n with
              | nil =>
                rw [hrt, List.nil_append] at hr
                rw [List.nil_append, hr]
                rcases hZh with hp0 | ⟨_, _, zh⟩
                · right; rw [hZ0 hp0]; rfl
                · left; exact zh
              | cons d t =>
                left
                rw [hrt] at hr
                rw [hr]
                rfl
            rcases hh with hh | hh
            · exact past_here g1 (by rw [hh]; exact g2) (by rw [hh]; exact g3)
            · exact past_here g1 (by rw [hh]; simp) (by rw [hh]; simp)
        have hpL : pastL (l.take k ++ ((l.drop k).take x.2 ++ Z)) = (k, true) := by rw [hp1, hpq]; rfl
        have hd1 := drop_cut (l := l) (k := k) (by omega) ((l.drop k).take x.2 ++ Z)
        have hd2 : (l.take k ++ ((l.drop k).take x.2 ++ Z)).drop (k + x.2) = Z := by
          rw [← List.drop_drop, hd1, drop_cut (by simp; omega)]
        refine ⟨_, lex_made (a := b) (x := x) (ts' := ts2) (by rw [hpL]) (by rw [hpL]; simp only; rw [hd1]; exact hqne) (by rw [hpL]; simp only; rw [hd1]; exact hnx) (by rw [hpL]; simp only; rw [hd2, hZ]; exact h5), ?_⟩
        simp [kinds] at h6 ⊢
        exact h6

end Go.Proofs.YtmfgcaffdkakhaaGreat
namespace Go.Proofs.YtmfgcaffdkakhaaGreat
set_option linter.unusedVariables false

theorem u8n (x : Int) (h0 : 0 ≤ x) (h1 : x < 256) : (x.toNat.toUInt8).toNat = x.toNat := by
  rw [Nat.toUInt8_eq, UInt8.toNat_ofNat']
  omega
theorem dec_enc (n : Nat) (h : Lib.validRune (n : Int) = true) : decL (Lib.encodeRune (n : Int)) = (n, (Lib.encodeRune (n : Int)).length) ∧ strayL (Lib.encodeRune (n : Int)) = false ∧ Lib.encodeRune (n : Int) ≠ [] := by
  unfold Lib.validRune at h
  simp only [decide_eq_true_eq] at h
  have key : decL (Lib.encodeRune (n : Int)) = (n, (Lib.encodeRune (n : Int)).length) ∧ (n = 65533 → (Lib.encodeRune (n : Int)).length = 3) ∧ Lib.encodeRune (n : Int) ≠ [] := by
    by_cases h1 : n < 128
    · have e : Lib.encodeRune (n : Int) = [(n : Int).toNat.toUInt8] := by rw [Lib.encodeRune, Lib.encodeRuneZ_one (by omega) (by omega)]; rfl
      have a0 : atL (Lib.encodeRune (n : Int)) 0 = n := by
        rw [e]
        show ((n : Int).toNat.toUInt8).toNat = n
        rw [u8n _ (by omega) (by omega)]
        omega
      refine ⟨?_, by omega, by rw [e]; simp⟩
      rw [decL, a0, if_pos h1, e]
      rfl
    · by_cases h2 : n < 2048
      · have e : Lib.encodeRune (n : Int) = [(192 + (n : Int) / 64).toNat.toUInt8, (128 + (n : Int) % 64).toNat.toUInt8] := by rw [Lib.encodeRune, Lib.encodeRuneZ_two (by omega) (by omega)]; rfl
        have a0 : atL (Lib.encodeRune (n : Int)) 0 = 192 + n / 64 := by
          rw [e]
          show ((192 + (n : Int) / 64).toNat.toUInt8).toNat = _
          rw [u8n _ (by omega) (by omega)]
          omega
        have a1 : atL (Lib.encodeRune (n : Int)) 1 = 128 + n % 64 := by
          rw [e]
          show ((128 + (n : Int) % 64).toNat.toUInt8).toNat = _
          rw [u8n _ (by omega) (by omega)]
          omega
        have hl : (Lib.encodeRune (n : Int)).length = 2 := by rw [e]; rfl
        refine ⟨?_, by omega, by rw [e]; simp⟩
        have b1 : contL (Lib.encodeRune (n : Int)) 1 = true := by unfold contL; rw [a1, hl]; simp; omega
        rw [decL, a0, a1, b1, hl, if_neg (by omega), if_pos (by simp; omega), if_pos (by omega)]
        simp only [Prod.mk.injEq, and_true]
        omega
      · by_cases h3 : n < 65536
        · have e : Lib.encodeRune (n : Int) = [(224 + (n : Int) / 4096).toNat.toUInt8, (128 + (n : Int) / 64 % 64).toNat.toUInt8, (128 + (n : Int) % 64).toNat.toUInt8] := by rw [Lib.encodeRune, Lib.encodeRuneZ_three (by omega)]; rfl
          have a0 : atL (Lib.encodeRune (n : Int)) 0 = 224 + n / 4096 := by
            rw [e]
            show ((224 + (n : Int) / 4096).toNat.toUInt8).toNat = _
            rw [u8n _ (by omega) (by omega)]
            omega
          have a1 : atL (Lib.encodeRune (n : Int)) 1 = 128 + n / 64 % 64 := by
            rw [e]
            show ((128 + (n : Int) / 64 % 64).toNat.toUInt8).toNat = _
            rw [u8n _ (by omega) (by omega)]
            omega
          have a2 : atL (Lib.encodeRune (n : Int)) 2 = 128 + n % 64 := by
            rw [e]
            show ((128 + (n : Int) % 64).toNat.toUInt8).toNat = _
            rw [u8n _ (by omega) (by omega)]
            omega
          have hl : (Lib.encodeRune (n : Int)).length = 3 := by rw [e]; rfl
          refine ⟨?_, fun _ => hl, by rw [e]; simp⟩
          have b1 : contL (Lib.encodeRune (n : Int)) 1 = true := by unfold contL; rw [a1, hl]; simp; omega
          have b2 : contL (Lib.encodeRune (n : Int)) 2 = true := by unfold contL; rw [a2, hl]; simp; omega
          have hv : (224 + n / 4096) % 16 * 4096 + (128 + n / 64 % 64) % 64 * 64 + (128 + n % 64) % 64 = n := by omega
          rw [decL, a0, a1, a2, b1, b2, hl, hv, if_neg (by omega), if_neg (by simp; omega), if_pos (by simp; omega), if_pos (by simp [Utf8.valid]; omega)]
        · have e : Lib.encodeRune (n : Int) = [(240 + (n : Int) / 262144).toNat.toUInt8, (128 + (n : Int) / 4096 % 64).toNat.toUInt8, (128 + (n : Int) / 64 % 64).toNat.toUInt8, (128 + (n : Int) % 64).toNat.toUInt8] := by rw [Lib.encodeRune, Lib.encodeRuneZ_four (by omega) (by omega)]; rfl
          have a0 : atL (Lib.encodeRune (n : Int)) 0 = 240 + n / 262144 := by
            rw [e]
            show ((240 + (n : Int) / 262144).toNat.toUInt8).toNat = _
            rw [u8n _ (by omega) (by omega)]
            omega
          have a1 : atL (Lib.encodeRune (n : Int)) 1 = 128 + n / 4096 % 64 := by
            rw [e]
            show ((128 + (n : Int) / 4096 % 64).toNat.toUInt8).toNat = _
            rw [u8n _ (by omega) (by omega)]
            omega
          have a2 : atL (Lib.encodeRune (n : Int)) 2 = 128 + n / 64 % 64 := by
            rw [e]
            show ((128 + (n : Int) / 64 % 64).toNat.toUInt8).toNat = _
            rw [u8n _ (by omega) (by omega)]
            omega
          have a3 : atL (Lib.encodeRune (n : Int)) 3 = 128 + n % 64 := by
            rw [e]
            show ((128 + (n : Int) % 64).toNat.toUInt8).toNat = _
            rw [u8n _ (by omega) (by omega)]
            omega
          have hl : (Lib.encodeRune (n : Int)).length = 4 := by rw [e]; rfl
          refine ⟨?_, by omega, by rw [e]; simp⟩
          have b1 : contL (Lib.encodeRune (n : Int)) 1 = true := by unfold contL; rw [a1, hl]; simp; omega
          have b2 : contL (Lib.encodeRune (n : Int)) 2 = true := by unfold contL; rw [a2, hl]; simp; omega
          have b3 : contL (Lib.encodeRune (n : Int)) 3 = true := by unfold contL; rw [a3, hl]; simp; omega
          have hv : (240 + n / 262144) % 8 * 262144 + (128 + n / 4096 % 64) % 64 * 4096 + (128 + n / 64 % 64) % 64 * 64 + (128 + n % 64) % 64 = n := by omega
          rw [decL, a0, a1, a2, a3, b1, b2, b3, hl, hv, if_neg (by omega), if_neg (by simp; omega), if_neg (by simp; omega), if_pos (by simp; omega), if_pos (by simp [Utf8.valid]; omega)]
  refine ⟨key.1, ?_, key.2.2⟩
  unfold strayL
  rw [key.1]
  by_cases e : n = 65533
  · have := key.2.1 e
    simp
    omega
  · simp [e]

theorem valid_app : ∀ (m : Nat) (a b : Bs), a.length ≤ m → validL a = true → validL (a ++ b) = validL b := by
  intro m
  induction m with
  | zero =>
    intro a b hm _
    have : a = [] := List.eq_nil_of_length_eq_zero (by omega)
    subst this
    rfl
  | succ m ih =>
    intro a b hm hv
    by_cases ha : a = []
    · subst ha; rfl
    · cases hs : strayL a
      · have hw := decL_width a
        have hle := decL_le a ha
        have hcut : a ++ b = a.take (decL a).2 ++ (a.drop (decL a).2 ++ b) := by rw [← List.append_assoc, List.take_append_drop]
        have hne : a ++ b ≠ [] := fun e => ha (List.append_eq_nil_iff.1 e).1
        have hd : decL (a ++ b) = decL a := by rw [hcut]; exact dec_local ha hs _
        have hs2 : strayL (a ++ b) = false := by unfold strayL; rw [hd]; exact hs
        rw [validL_rune a ha hs] at hv
        rw [validL_rune _ hne hs2, hd]
        conv => lhs; rw [hcut]
        rw [drop_cut hle]
        exact ih _ b (by simp; omega) hv
      · rw [validL_stray a ha hs] at hv; cases hv
theorem valid_enc {a : Bs} {n : Nat} (ha : validL a = true) (h : Lib.validRune (n : Int) = true) : validL (a ++ Lib.encodeRune (n : Int)) = true := by
  obtain ⟨h1, h2, h3⟩ := dec_enc n h
  rw [valid_app _ _ _ (Nat.le_refl _) ha, validL_rune _ h3 h2, h1]
  simp [validL_nil]
theorem dec_valid (l : Bs) : Lib.validRune ((decL l).1 : Int) = true := by
  have h0 := atL_lt l 0
  unfold Lib.validRune decL
  repeat' split
  all_goals simp_all [Utf8.valid]
  all_goals omega
theorem step_said {u u' : Unq} {r : Nat} (hr : Lib.validRune (r : Int) = true) (h : stepU u (r : Int) = some u') : u'.said = u.said ∨ ∃ n : Nat, Lib.validRune (n : Int) = true ∧ u'.said = u.said ++ Lib.encodeRune (n : Int) := by
  unfold stepU at h
  split at h
  · unfold stepFirst at h
    split at h
    · cases h; exact .inl rfl
    · cases h
  · split at h
    · unfold stepInside at h
      split at h
      · cases h
      · split at h
        · cases h; exact .inl rfl
        · split at h
          · cases h; exact .inl rfl
          · cases h; exact .inr ⟨r, hr, rfl⟩
    · split at h
      · unfold stepEscaped at h
        split at h
        · cases h; exact .inr ⟨10, by decide, rfl⟩
        · split at h
          · cases h; exact .inr ⟨9, by decide, rfl⟩
          · split at h
            · cases h; exact .inr ⟨r, hr, rfl⟩
            · split at h
              · cases h; exact .inl rfl
              · cases h
      · split at h
        · unfold stepNumbered at h
          split at h
          · cases h; exact .inl rfl
          · cases h
        · first
            | (unfold stepCounting at h
               split at h
               · split at h
                 · cases h
                 · rename_i hv
                   cases h
                   exact .inr ⟨u.num, by simpa using fun e => hv (.inr e), rfl⟩
               · split at h
                 · cases h
                 · cases h; exact .inl rfl)
            | (split at h
               · unfold stepCounting at h
                 split at h
                 · split at h
                   · cases h
                   · rename_i hv
                     cases h
                     exact .inr ⟨u.num, by simpa using fun e => hv (.inr e), rfl⟩
                 · split at h
                   · cases h
                   · cases h; exact .inl rfl
               · first | (cases h; done) | (cases h; exact .inl rfl))
theorem said_valid_from : ∀ (m : Nat) (l : Bs) (u : Unq) (pos : Nat) (t : Bs) (n : Nat), l.length ≤ m → validL u.said = true → unqS (scan l) u pos = some (t, n) → validL t = true
  | m, [], u, pos, t, n, _, _, h => by rw [scan_nil] at h; cases h
  | 0, c :: r, u, pos, t, n, hm, _, h => by simp at hm
  | m + 1, c :: r, u, pos, t, n, hm, hv, h => by
    have hne : (c :: r) ≠ [] := by simp
    have hw := decL_width (c :: r)
    cases hs : strayL (c :: r)
    · cases hu : stepU u (decL (c :: r)).1 with
      | none => rw [unqS_none _ hne hs u pos hu] at h; cases h
      | some u' =>
        have hv' : validL u'.said = true := by
          rcases step_said (dec_valid (c :: r)) hu with e | ⟨k, hk, e⟩
          · rw [e]; exact hv
          · rw [e]; exact valid_enc hv hk
        by_cases h5 : u'.st = 5
        · rw [unqS_end _ hne hs u u' pos hu h5] at h
          cases h
          exact hv'
        · rw [unqS_more _ hne hs u u' pos hu h5] at h
          exact said_valid_from m _ u' _ t n (by simp only [List.length_drop]; simp only [List.length_cons] at hm ⊢; omega) hv' h
    · rw [unqS_stray _ hne hs u pos] at h; cases h
theorem said_valid {l t : Bs} {n : Nat} (h : unquoteL l = some (t, n)) : validL t = true := said_valid_from l.length l _ 0 t n (Nat.le_refl _) validL_nil h

end Go.Proofs.YtmfgcaffdkakhaaGreat
namespace Go.Proofs.YtmfgcaffdkakhaaGreat
set_option linter.unusedVariables false
/-- a text that is just one token. -/
structure Alone (s : Bs) (t : Tk) : Prop where
  ne : s ≠ []
  past : pastL s = (0, true)
  next : nextL s true = .ok (t, s.length)
theorem Alone.is {s : Bs} {t : Tk} (h : Alone s t) : isTk s t = true := by
  unfold isTk
  have : lexL 0 s true = .ok [(t, 0)] := by
    have := lex_made (a := 0) (l := s) (sc := true) (x := (t, s.length)) (ts' := []) (by rw [h.past]) (by rw [h.past]; simpa using h.ne) (by rw [h.past]; simpa using h.next) (by
      rw [h.past]
      simp only [Nat.zero_add, List.drop_length]
      exact lex_end (by rw [pastL_nil]) (by simp))
    rw [h.past] at this
    exact this
  rw [this]
  simp
end Go.Proofs.YtmfgcaffdkakhaaGreat
namespace Go.Proofs.YtmfgcaffdkakhaaGreat
set_option linter.unusedVariables false

def sumT : List Tk → Nat
  | [] => 0
  | t :: ts => t.2.1.length + sumT ts

theorem unqS_said : ∀ (m : Nat) (l : Bs) (u : Unq) (pos : Nat) (t : Bs) (n : Nat), l.length ≤ m → u.ok → u.said.length + u.pend ≤ pos → unqS (scan l) u pos = some (t, n) → t.length ≤ n + 3
  | m, [], u, pos, t, n, _, _, _, h => by rw [scan_nil] at h; cases h
  | 0, c :: r, u, pos, t, n, hm, _, _, h => by simp at hm
  | m + 1, c :: r, u, pos, t, n, hm, hok, hp, h => by
    have hne : (c :: r) ≠ [] := by simp
    have hw := decL_width (c :: r)
    have hle := decL_le (c :: r) hne
    cases hs : strayL (c :: r)
    · cases hu : stepU u (decL (c :: r)).1 with
      | none => rw [unqS_none _ hne hs u pos hu] at h; cases h
      | some u' =>
        have henc := enc_dec _ hne hs
        have hok2 := stepU_ok u u' _ (decL (c :: r)).2 hu hok hw.1 (by rw [henc, List.length_take]; omega)
        by_cases h5 : u'.st = 5
        · rw [unqS_end _ hne hs u u' pos hu h5] at h
          cases h
          have := hok2.2
          omega
        · rw [unqS_more _ hne hs u u' pos hu h5] at h
          exact unqS_said m _ u' _ t n (by simp only [List.length_drop]; simp only [List.length_cons] at hm ⊢; omega) hok2.1 (by have := hok2.2; omega) h
    · rw [unqS_stray _ hne hs u pos] at h; cases h
theorem unquoteL_said {l t : Bs} {n : Nat} (h : unquoteL l = some (t, n)) : t.length ≤ n + 3 :=
  unqS_said l.length l Unq.start 0 t n (Nat.le_refl _) ⟨by simp [Unq.start], by simp [Unq.start], by simp [Unq.start], by simp [Unq.start]⟩ (by simp [Unq.start, Unq.pend]) h

theorem next_said {l : Bs} {sc : Bool} {x : Tk × Nat} (h : nextL l sc = .ok x) : x.1.2.1.length ≤ x.2 + 3 ∧ 0 ≤ x.1.2.2 ∧ x.1.2.2 ≤ 9223372036854775807 := by
  unfold nextL at h
  split at h
  · cases h
    exact ⟨by simp only [List.length_take]; omega, by simp, by simp⟩
  · split at h
    · unfold numbL at h
      split at h
      · cases h
      · split at h
        · cases h
        · cases h
          exact ⟨by simp, by simp only; omega, by simp only; omega⟩
    · split at h
      · unfold unqNx at h
        split at h
        · rename_i y hy
          cases h
          exact ⟨unquoteL_said (t := y.1) (n := y.2) hy, by simp, by simp⟩
        · cases h
      · unfold signNx at h
        split at h
        · cases h
          exact ⟨by simp, by simp, by simp⟩
        · cases h

theorem lex_said : ∀ (m a : Nat) (l : Bs) (sc : Bool) (ts : List (Tk × Nat)), l.length ≤ m → lexL a l sc = .ok ts → sumT (kinds ts) + 4 * ts.length ≤ 8 * l.length ∧ ∀ t ∈ kinds ts, t.2.1.length ≤ l.length + 3 ∧ 0 ≤ t.2.2 ∧ t.2.2 ≤ 9223372036854775807 := by
  intro m
  induction m with
  | zero =>
    intro a l sc ts hm h
    rw [lexL_eq] at h
    split at h
    · cases h
    · split at h
      · cases h; simp [kinds, sumT]
      · rename_i h2
        exact absurd (List.drop_eq_nil_of_le (by omega)) h2
  | succ m ih =>
    intro a l sc ts hm h
    rw [lexL_eq] at h
    split at h
    · cases h
    · split at h
      · cases h; simp [kinds, sumT]
      · rename_i h2
        cases hx : nextL (l.drop (pastL l).1) sc with
        | error e => rw [hx] at h; cases h
        | ok x =>
          rw [hx] at h
          have hlen := next_len h2 hx
          have hsd := next_said hx
          simp only [List.length_drop] at hlen
          simp only at h
          cases hy : lexL (a + (pastL l).1 + x.2) (l.drop ((pastL l).1 + x.2)) sc with
          | error d => rw [hy] at h; cases h
          | ok ts' =>
            rw [hy] at h
            cases h
            obtain ⟨i1, i2⟩ := ih _ _ sc ts' (by simp; omega) hy
            simp only [List.length_drop] at i1 i2
            refine ⟨?_, ?_⟩
            · simp only [kinds, List.map_cons, sumT, List.length_cons]
              simp only [kinds] at i1
              omega
            · intro t ht
              simp only [kinds, List.map_cons, List.mem_cons] at ht
              rcases ht with rfl | ht
              · exact ⟨by omega, hsd.2⟩
              · have := i2 t ht
                exact ⟨by omega, this.2⟩

end Go.Proofs.YtmfgcaffdkakhaaGreat
