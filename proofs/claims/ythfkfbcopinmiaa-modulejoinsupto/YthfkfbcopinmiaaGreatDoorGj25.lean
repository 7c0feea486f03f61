/- Own text. Tokens of a source,as rows of bytes: names,numbers,texts,signs,blanks and notes;all tokens of a text. The document's reader of names,blanks and notes. The document's reader of names,and of blanks and notes. The document's words,signs and numbers. The contract of the document's Encode: a rune's bytes. What is said by a text in quotes: reading back what was quoted. A text in quotes says the text,whatever stands behind;no byte of it is below 32. The contract of the document's function that cuts a text into runes. What stands behind a backslash,read at once and rune by rune: the same. The contracts of the document's number and escape. The contract of the document's escape. The contract of Slice of package runes,where something lies between the places. The contract of Slice of package runes for all places. The contract of the document's Unquote: it says what the reader,rune by rune,says. The document's next token. The document's next token: numbers,texts. The document's next token: signs,and all together. The document's reader of blanks and notes. All tokens: how many bytes a token has;the list unfolds. The document's Lex. -/
import Derived.Test.YthfkfbcopinmiaaGreatDoorGj24
import Derived.WalkKit
import Derived.WalkSmall
import Derived.Laws.OwnMore
import Derived.OwnWalk
import Derived.Below
import Derived.Lib.Small
import Derived.Test.YthfkfbcopinmiaaGreatDoorGj22
import Derived.Lib.RuneBytes
import Derived.Maps.AppendAt
import Derived.Deep.QuietTactic
import Derived.BigQuiet
import Derived.Deep.RegionHeld3
set_option linter.unusedVariables false
set_option maxHeartbeats 2000000
namespace Go.Proofs.YthfkfbcopinmiaaGreatDoor
abbrev Bs := List UInt8
abbrev Tk := Int × Bs × Int
def begL (l : Bs) (sc : Bool) : Nat :=
 if l = [] then 0
 else if atL l 0 = 95 ∨ (sc = true ∧ atL l 0 = 36) then 1
 else if strayL l = false ∧ letterB (decL l).1 = true then (decL l).2 else 0
def digC (c : Nat) : Bool:=decide (48 ≤ c) && decide (c ≤ 57)
def onL (l : Bs) (sc : Bool) : Nat:=if begL l sc ≠ 0 then begL l sc else if l ≠ [] ∧ digC (atL l 0) = true then 1 else 0
def tailF : Nat → Bs → Bool → Nat
 | 0,_,_=>0
 | f + 1,l,sc=>if onL l sc = 0 then 0 else onL l sc + tailF f (l.drop (onL l sc)) sc
def tailL (l : Bs) (sc : Bool) : Nat:=tailF l.length l sc
def nameL (l : Bs) (sc : Bool) : Nat:=if begL l sc = 0 then 0 else begL l sc + tailL (l.drop (begL l sc)) sc
def isBl (c : UInt8) : Bool:=c == 9 || c == 10 || c == 13 || c == 32
def lineL : Bs → Nat
 | []=>0
 | c :: r=>if c = 10 then 0 else lineL r + 1
def noteL : Bs → Option Nat
 | []=>none
 | c :: r=>if c = 42 ∧ r.head? = some 47 then some 2 else (noteL r).map (· + 1)
def pastF : Nat → Bs → Nat × Bool
 | 0,_=>(0,true)
 | f + 1,[]=>(0,true)
 | f + 1,c :: r =>
  if isBl c then ((pastF f r).1 + 1,(pastF f r).2)
  else if c = 47 ∧ r.head? = some 47 then ((pastF f (r.drop (lineL r))).1 + (lineL r + 1),(pastF f (r.drop (lineL r))).2)
  else if c = 47 ∧ r.head? = some 42 then
   match noteL r.tail with
   | none=>(0,false)
   | some k=>((pastF f (r.tail.drop k)).1 + (k + 2),(pastF f (r.tail.drop k)).2)
  else (0,true)
def pastL (l : Bs) : Nat × Bool:=pastF l.length l
def wordsL : List Bs:=[[99,108,97,115,115],[99,111,110,115,116],[100,101,102,97,117,108,116],[101,108,115,101],[101,120,112,111,114,116],[102,97,108,115,101],[102,117,110,99,116,105,111,110],[105,102],[105,109,112,111,114,116],[108,101,116],[110,101,119],[110,117,108,108],[114,101,116,117,114,110],[116,104,105,115],[116,104,114,111,119],[116,114,117,101],[116,121,112,101,111,102],[117,110,100,101,102,105,110,101,100],[119,104,105,108,101]]
def wordB (l : Bs) : Bool:=wordsL.contains l
def signsL : List Bs:=[[61,61,61],[33,61,61],[60,61],[62,61],[38,38],[124,124],[61,62],[123],[125],[40],[41],[91],[93],[59],[44],[58],[46],[63],[61],[43],[45],[42],[47],[37],[60],[62],[33],[124]]
def digsL (l : Bs) : Bs:=l.takeWhile fun c=>digC c.toNat
def decN (n : Nat) (l : Bs) : Nat:=l.foldl (fun n c=>10 * n + (c.toNat - 48)) n
abbrev Nx := Except Nat (Tk × Nat)
def numbL (l : Bs) (sc : Bool) : Nx :=
 if (1 < (digsL l).length ∧ atL l 0 = 48) ∨ 0 < begL (l.drop (digsL l).length) sc then .error 40
 else if 9007199254740991 < decN 0 (digsL l) then .error 41
 else .ok ((3,[],(decN 0 (digsL l) : Int)),(digsL l).length)
def unqNx (l : Bs) : Nx:=match unquoteL l with
 | some x=>.ok ((4,x.1,0),x.2)
 | none=>.error 40
def signNx (l : Bs) : Nx:=match signsL.find? (fun g=>g.isPrefixOf l) with
 | some g=>.ok ((5,g,0),g.length)
 | none=>.error 40
def nextL (l : Bs) (sc : Bool) : Nx :=
 if 0 < nameL l sc then .ok (((if wordB (l.take (nameL l sc)) then 2 else 1),l.take (nameL l sc),0),nameL l sc)
 else if digC (atL l 0) = true then numbL l sc
 else if atL l 0 = 34 ∨ atL l 0 = 39 then unqNx l else signNx l
abbrev Lx := Except (Nat × Nat) (List (Tk × Nat))
def consL (x : Tk × Nat) : Lx → Lx
 | .error e=>.error e
 | .ok ts=>.ok (x :: ts)
def lexF : Nat → Nat → Bs → Bool → Lx
 | 0,_,_,_=>.ok []
 | f + 1,a,l,sc =>
  if (pastL l).2 = false then .error (a + (pastL l).1,40)
  else if l.drop (pastL l).1 = [] then .ok []
  else match nextL (l.drop (pastL l).1) sc with
   | .error e=>.error (a + (pastL l).1,e)
   | .ok x=>consL (x.1,a + (pastL l).1) (lexF f (a + (pastL l).1 + x.2) (l.drop ((pastL l).1 + x.2)) sc)
def lexL (a : Nat) (l : Bs) (sc : Bool) : Lx:=lexF (l.length + 1) a l sc
def isTk (s : Bs) (t : Tk) : Bool:=match lexL 0 s true with
 | .ok [x]=>x.1 == t
 | _=>false
theorem begL_le (l : Bs) (sc : Bool) : begL l sc ≤ l.length:=by
 unfold begL
 split
 ·exact Nat.zero_le _
 ·rename_i h
  have h1:=decL_le l h
  have h0 : 1 ≤ l.length:=by cases l <;> simp_all
  split
  ·exact h0
  ·split
   ·exact h1
   ·exact Nat.zero_le _
theorem onL_le (l : Bs) (sc : Bool) : onL l sc ≤ l.length:=by
 have h:=begL_le l sc
 unfold onL
 split
 ·exact h
 ·split
  ·rename_i h1
   have h0 : 1 ≤ l.length:=by cases l <;> simp_all
   exact h0
  ·exact Nat.zero_le _
theorem tailF_more : ∀ (f g : Nat) (l : Bs) (sc : Bool),l.length ≤ f → l.length ≤ g → tailF f l sc = tailF g l sc
 | 0,g,l,sc,hf,_=>by
  have hl : l = []:=List.eq_nil_of_length_eq_zero (by omega)
  subst hl
  cases g <;> simp [tailF,onL,begL]
 | f + 1,0,l,sc,_,hg=>by
  have hl : l = []:=List.eq_nil_of_length_eq_zero (by omega)
  subst hl
  simp [tailF,onL,begL]
 | f + 1,g + 1,l,sc,hf,hg=>by
  have h:=onL_le l sc
  unfold tailF
  split
  ·rfl
  ·rw [tailF_more f g _ sc (by simp;omega) (by simp;omega)]
theorem tailL_eq (l : Bs) (sc : Bool) : tailL l sc = if onL l sc = 0 then 0 else onL l sc + tailL (l.drop (onL l sc)) sc:=by
 have h:=onL_le l sc
 unfold tailL
 cases hl : l.length with
 | zero =>
  have : l = []:=List.eq_nil_of_length_eq_zero hl
  subst this
  simp [tailF,onL,begL]
 | succ n =>
  conv=>lhs;unfold tailF
  split
  ·rfl
  ·rw [tailF_more n (l.drop (onL l sc)).length _ sc (by simp;omega) (Nat.le_refl _)]
theorem tailF_le : ∀ (f : Nat) (l : Bs) (sc : Bool),tailF f l sc ≤ l.length
 | 0,l,sc=>Nat.zero_le _
 | f + 1,l,sc=>by
  have h:=onL_le l sc
  have ih:=tailF_le f (l.drop (onL l sc)) sc
  simp only [List.length_drop] at ih
  unfold tailF
  split
  ·exact Nat.zero_le _
  ·omega
theorem tailL_le (l : Bs) (sc : Bool) : tailL l sc ≤ l.length:=tailF_le _ _ _
theorem nameL_le (l : Bs) (sc : Bool) : nameL l sc ≤ l.length:=by
 have h:=begL_le l sc
 have h2:=tailL_le (l.drop (begL l sc)) sc
 simp only [List.length_drop] at h2
 unfold nameL
 split
 ·exact Nat.zero_le _
 ·omega
theorem lineL_le : ∀ l : Bs,lineL l ≤ l.length
 | []=>Nat.le_refl _
 | c :: r=>by
  have:=lineL_le r
  unfold lineL
  split <;> simp
  omega
theorem noteL_le : ∀ (l : Bs) (k : Nat),noteL l = some k → 2 ≤ k ∧ k ≤ l.length
 | c :: r,k,h=>by
  unfold noteL at h
  split at h
  ·rename_i hc
   cases h
   cases r with
   | nil=>simp at hc
   | cons d r=>simp
  ·cases hn : noteL r with
   | none=>rw [hn] at h;cases h
   | some j =>
    rw [hn] at h
    have:=noteL_le r j hn
    cases h
    simp
    omega
theorem pastF_more : ∀ (f g : Nat) (l : Bs),l.length ≤ f → l.length ≤ g → pastF f l = pastF g l
 | 0,g,l,hf,_=>by
  have hl : l = []:=List.eq_nil_of_length_eq_zero (by omega)
  subst hl
  cases g <;> rfl
 | f + 1,0,l,_,hg=>by
  have hl : l = []:=List.eq_nil_of_length_eq_zero (by omega)
  subst hl
  rfl
 | f + 1,g + 1,[],_,_=>rfl
 | f + 1,g + 1,c :: r,hf,hg=>by
  simp only [List.length_cons] at hf hg
  unfold pastF
  rw [pastF_more f g r (by omega) (by omega),pastF_more f g (r.drop (lineL r)) (by simp;omega) (by simp;omega)]
  have h2 : ∀ k,pastF f (r.tail.drop k) = pastF g (r.tail.drop k):=fun k=>pastF_more f g _ (by simp;omega) (by simp;omega)
  simp only [h2]
theorem pastL_nil : pastL [] = (0,true):=rfl
theorem pastL_cons (c : UInt8) (r : Bs) : pastL (c :: r) =
 if isBl c then ((pastL r).1 + 1,(pastL r).2)
 else if c = 47 ∧ r.head? = some 47 then ((pastL (r.drop (lineL r))).1 + (lineL r + 1),(pastL (r.drop (lineL r))).2)
 else if c = 47 ∧ r.head? = some 42 then
  match noteL r.tail with
  | none=>(0,false)
  | some k=>((pastL (r.tail.drop k)).1 + (k + 2),(pastL (r.tail.drop k)).2)
 else (0,true):=by
 unfold pastL
 simp only [List.length_cons]
 conv=>lhs;unfold pastF
 have h2 : ∀ k,pastF r.length (r.tail.drop k) = pastF (r.tail.drop k).length (r.tail.drop k):=fun k=>pastF_more _ _ _ (by simp only [List.length_drop,List.length_tail];omega) (Nat.le_refl _)
 rw [pastF_more r.length (r.drop (lineL r)).length (r.drop (lineL r)) (by simp) (Nat.le_refl _)]
 simp only [h2]
theorem pastF_le : ∀ (f : Nat) (l : Bs),(pastF f l).1 ≤ l.length
 | 0,l=>Nat.zero_le _
 | f + 1,[]=>Nat.le_refl _
 | f + 1,c :: r=>by
  have h1:=pastF_le f r
  have h2:=pastF_le f (r.drop (lineL r))
  have h3:=lineL_le r
  simp only [List.length_drop] at h2
  unfold pastF
  split
  ·simp;omega
  ·split
   ·simp;omega
   ·split
    ·split
     ·exact Nat.zero_le _
     ·rename_i k hk
      have h4:=noteL_le _ _ hk
      have h5:=pastF_le f (r.tail.drop k)
      cases r with
      | nil=>simp [noteL] at hk
      | cons d r =>
       simp only [List.tail_cons,List.length_drop,List.length_cons] at h4 h5 ⊢
       omega
    ·exact Nat.zero_le _
theorem pastL_le (l : Bs) : (pastL l).1 ≤ l.length:=pastF_le _ _
end Go.Proofs.YthfkfbcopinmiaaGreatDoor
namespace Go.Proofs.YthfkfbcopinmiaaGreatDoor
open Go.RowKit
theorem byteI (s : ByteArray) (k : Nat) (h : k < s.size) : ((s[k].toNat : Nat) : Int) = ((atL s.data.toList k : Nat) : Int):=by rw [byte_at s k h]
theorem empty_iff {s : ByteArray} (h : s.data.toList = []) : s.toList.isEmpty = true:=by rw [Lib.toList_data,h];rfl
theorem empty_not {s : ByteArray} (h : s.data.toList ≠ []) : s.toList.isEmpty = false:=by
 rw [Lib.toList_data]
 cases hl : s.data.toList with
 | nil=>exact absurd hl h
 | cons _ _=>rfl
theorem pos_of {s : ByteArray} (h : s.data.toList ≠ []) : 0 < s.size:=by rw [Lib.size_eq];exact List.length_pos_iff.2 h
theorem int_eqb {a b : Int} (h : a ≠ b) : (a == b) = false:=by simpa using h
theorem begL_some (l : Bs) (sc : Bool) (h : l ≠ []) : begL l sc = if atL l 0 = 95 ∨ (sc = true ∧ atL l 0 = 36) then 1 else if strayL l = false ∧ letterB (decL l).1 = true then (decL l).2 else 0:=by
 unfold begL
 rw [if_neg h]
end Go.Proofs.YthfkfbcopinmiaaGreatDoor
set_option linter.unusedVariables false
set_option maxHeartbeats 2000000
namespace Go.Proofs.YthfkfbcopinmiaaGreatDoor
open Go.RowKit
theorem drop_run (s : ByteArray) (n : Nat) (h : n ≤ s.size) (W : World) : (Instr.slice 9 (.string s) (some (.int .i64 (n : Int))) none none).run Tryz.prog W = .ok (.string (s.extract n s.size)) W:=by
 have h1 : (n : Int) ≤ (s.size : Int):=by omega
 go_simp
theorem atL_drop (l : Bs) (n k : Nat) : atL (l.drop n) k = atL l (n + k):=by
 unfold atL
 rw [List.getD_eq_getElem?_getD,List.getElem?_drop,← List.getD_eq_getElem?_getD]
theorem past_blank {l : Bs} {i : Nat} {c : UInt8} (hi : l[i]? = some c) (h : isBl c = true) : pastL (l.drop i) = ((pastL (l.drop (i + 1))).1 + 1,(pastL (l.drop (i + 1))).2):=by
 obtain ⟨hl,e⟩:=List.getElem?_eq_some_iff.1 hi
 rw [List.drop_eq_getElem_cons hl,pastL_cons,e,if_pos h]
theorem past_line {l : Bs} {i : Nat} (hi : l[i]? = some 47) (h2 : l[i + 1]? = some 47) : pastL (l.drop i) = ((pastL (l.drop (i + lineL (l.drop i)))).1 + lineL (l.drop i),(pastL (l.drop (i + lineL (l.drop i)))).2):=by
 obtain ⟨hl,e⟩:=List.getElem?_eq_some_iff.1 hi
 have hh : (l.drop (i + 1)).head? = some 47:=by rw [List.head?_drop];exact h2
 have hll : lineL (l.drop i) = lineL (l.drop (i + 1)) + 1:=by
  rw [List.drop_eq_getElem_cons hl,e]
  simp [lineL]
 rw [hll]
 conv=>lhs;rw [List.drop_eq_getElem_cons hl,pastL_cons,e]
 rw [if_neg (by decide),if_pos ⟨rfl,hh⟩,List.drop_drop]
 rw [show i + 1 + lineL (l.drop (i + 1)) = i + (lineL (l.drop (i + 1)) + 1) from by omega]
theorem past_note {l : Bs} {i : Nat} (hi : l[i]? = some 47) (h2 : l[i + 1]? = some 42) : pastL (l.drop i) = match noteL (l.drop (i + 2)) with
 | none=>(0,false)
 | some k=>((pastL (l.drop (i + 2 + k))).1 + (k + 2),(pastL (l.drop (i + 2 + k))).2):=by
 obtain ⟨hl,e⟩:=List.getElem?_eq_some_iff.1 hi
 have hh : (l.drop (i + 1)).head? = some 42:=by rw [List.head?_drop];exact h2
 have ht : (l.drop (i + 1)).tail = l.drop (i + 2):=by rw [List.tail_drop]
 conv=>lhs;rw [List.drop_eq_getElem_cons hl,pastL_cons,e]
 rw [if_neg (by decide),if_neg (by rw [hh];simp),if_pos ⟨rfl,hh⟩,ht]
 simp only [List.drop_drop] <;> cases noteL (l.drop (i + 2)) <;> rfl
theorem past_stop {l : Bs} {i : Nat} {c : UInt8} (hi : l[i]? = some c) (h : isBl c = false) (h1 : ¬ (c = 47 ∧ l[i + 1]? = some 47)) (h2 : ¬ (c = 47 ∧ l[i + 1]? = some 42)) : pastL (l.drop i) = (0,true):=by
 obtain ⟨hl,e⟩:=List.getElem?_eq_some_iff.1 hi
 rw [List.drop_eq_getElem_cons hl,pastL_cons,e,if_neg (by rw [h];simp),List.head?_drop,if_neg h1,if_neg h2]
theorem lineL_go {l : Bs} {j : Nat} {c : UInt8} (hj : l[j]? = some c) (hc : c ≠ 10) : lineL (l.drop j) = lineL (l.drop (j + 1)) + 1:=by
 obtain ⟨hl,e⟩:=List.getElem?_eq_some_iff.1 hj
 rw [List.drop_eq_getElem_cons hl,e]
 simp [lineL,hc]
theorem isBl_of (c : UInt8) : isBl c = (decide (((c.toNat : Nat) : Int) = 9) || decide (((c.toNat : Nat) : Int) = 10) || decide (((c.toNat : Nat) : Int) = 13) || decide (((c.toNat : Nat) : Int) = 32)):=by
 have h : ∀ k : Fin 256,isBl (UInt8.ofNat k.val) = (decide ((((UInt8.ofNat k.val).toNat : Nat) : Int) = 9) || decide ((((UInt8.ofNat k.val).toNat : Nat) : Int) = 10) || decide ((((UInt8.ofNat k.val).toNat : Nat) : Int) = 13) || decide ((((UInt8.ofNat k.val).toNat : Nat) : Int) = 32)):=by decide +kernel
 have:=h ⟨c.toNat,c.toNat_lt⟩
 simpa using this
end Go.Proofs.YthfkfbcopinmiaaGreatDoor
set_option linter.unusedVariables false
set_option maxRecDepth 100000
set_option maxHeartbeats 4000000
namespace Go.Proofs.YthfkfbcopinmiaaGreatDoor
open Go.RowKit
def textCells (l : List Bs) : List Value:=l.map fun b=>.string ⟨b.toArray⟩
theorem digsL_at {l : Bs} {k : Nat} (hk : k ≤ l.length) (h1 : ∀ j,j < k → digC (atL l j) = true) (h2 : k = l.length ∨ digC (atL l k) = false) : digsL l = l.take k:=by
 induction k generalizing l with
 | zero =>
  cases l with
  | nil=>rfl
  | cons c r =>
   have : digC c.toNat = false:=by
    rcases h2 with h | h
    ·simp at h
    ·simpa [atL] using h
   simp [digsL,this]
 | succ k ih =>
  cases l with
  | nil=>simp at hk
  | cons c r =>
   have h0 : digC c.toNat = true:=by simpa [atL] using h1 0 (by omega)
   have:=ih (l:=r) (by simpa using hk) (fun j hj=>by simpa [atL] using h1 (j + 1) (by omega)) (by
    rcases h2 with h | h
    ·exact .inl (by simpa using h)
    ·exact .inr (by simpa [atL] using h))
   unfold digsL at this ⊢
   simp only [List.takeWhile_cons,h0,if_true,List.take_succ_cons,this]
theorem decN_succ (l : Bs) (k : Nat) (hk : k < l.length) : decN 0 (l.take (k + 1)) = 10 * decN 0 (l.take k) + (atL l k - 48):=by
 unfold decN atL
 rw [List.take_add_one,List.getElem?_eq_getElem hk,List.foldl_append]
 simp [List.getD,List.getElem?_eq_getElem hk]
def NumAt (l : Bs) (k : Nat) (n : Nat) (gr : Bool) : Prop:=k ≤ l.length ∧ (∀ j,j < k → digC (atL l j) = true) ∧ n ≤ 9007199254740999 ∧ (gr = false → n = decN 0 (l.take k) ∧ n ≤ 9007199254740991) ∧ (gr = true → 9007199254740991 < decN 0 (l.take k))
theorem NumAt.go {l : Bs} {k n : Nat} {gr : Bool} (h : NumAt l k n gr) (hk : k < l.length) (hd : digC (atL l k) = true) (hn : ¬ 900719925474099 < n) : NumAt l (k + 1) (10 * n + (atL l k - 48)) (gr || decide (9007199254740991 < 10 * n + (atL l k - 48))):=by
 obtain ⟨h1,h2,h3,h4,h5⟩:=h
 have hd9 : atL l k - 48 ≤ 9:=by unfold digC at hd;simp at hd;omega
 refine ⟨by omega,fun j hj=>?_,by omega,fun h=>?_,fun h=>?_⟩
 ·by_cases e : j = k
  ·subst e;exact hd
  ·exact h2 j (by omega)
 ·simp at h
  rw [decN_succ l k hk,← (h4 h.1).1]
  exact ⟨rfl,by omega⟩
 ·rw [decN_succ l k hk]
  cases gr
  ·simp at h
   rw [← (h4 rfl).1]
   omega
  ·have:=h5 rfl;omega
end Go.Proofs.YthfkfbcopinmiaaGreatDoor
set_option maxHeartbeats 1000000
namespace Go.Proofs.YthfkfbcopinmiaaGreatDoor
open Go.RowKit
end Go.Proofs.YthfkfbcopinmiaaGreatDoor
namespace Go.Proofs.YthfkfbcopinmiaaGreatDoor
theorem atL_app (p q : List UInt8) (k : Nat) (h : k < p.length) : atL (p ++ q) k = atL p k:=by
 unfold atL
 rw [List.getD_eq_getElem?_getD,List.getD_eq_getElem?_getD,List.getElem?_append_left h]
theorem decL_app (p q : List UInt8) (hne : p ≠ []) (hd : (decL p).2 = p.length) (hs : strayL p = false) : decL (p ++ q) = decL p:=by
 have h0 : 0 < p.length:=List.length_pos_iff.2 hne
 obtain ⟨d,hdd⟩ : ∃ d,decL p = d:=⟨_,rfl⟩
 have hs' : ¬ (d.1 = 65533 ∧ d.2 = 1):=by
  rw [strayL,hdd] at hs
  simp at hs
  intro h
  exact hs h.1 h.2
 rw [hdd] at hd ⊢
 unfold decL contL at hdd
 unfold decL contL
 rw [List.length_append]
 rw [atL_app p q 0 h0]
 split at hdd
 ·rename_i h1
  rw [if_pos h1];exact hdd
 rename_i h1
 rw [if_neg h1]
 split at hdd
 ·rename_i h2
  split at hdd
  ·rename_i h3
   subst hdd
   replace hd : 2 = p.length:=hd
   rw [atL_app p q 1 (by omega)]
   simp at h2
   rw [if_pos (by simp;omega),if_pos h3]
  ·subst hdd;exact absurd ⟨rfl,rfl⟩ hs'
 rename_i h2
 split at hdd
 ·rename_i h3
  split at hdd
  ·rename_i h4
   subst hdd
   replace hd : 3 = p.length:=hd
   rw [atL_app p q 1 (by omega),atL_app p q 2 (by omega)]
   simp at h3
   rw [if_neg (by simp;omega),if_pos (by simp;omega),if_pos h4]
  ·subst hdd;exact absurd ⟨rfl,rfl⟩ hs'
 rename_i h3
 split at hdd
 ·rename_i h4
  split at hdd
  ·rename_i h5
   subst hdd
   replace hd : 4 = p.length:=hd
   rw [atL_app p q 1 (by omega),atL_app p q 2 (by omega),atL_app p q 3 (by omega)]
   simp at h4
   rw [if_neg (by simp;omega),if_neg (by simp;omega),if_pos (by simp;omega),if_pos h5]
  ·subst hdd;exact absurd ⟨rfl,rfl⟩ hs'
 ·subst hdd;exact absurd ⟨rfl,rfl⟩ hs'
end Go.Proofs.YthfkfbcopinmiaaGreatDoor
namespace Go.Proofs.YthfkfbcopinmiaaGreatDoor
end Go.Proofs.YthfkfbcopinmiaaGreatDoor
namespace Go.Proofs.YthfkfbcopinmiaaGreatDoor
open Go.RowKit
end Go.Proofs.YthfkfbcopinmiaaGreatDoor
set_option maxRecDepth 100000
set_option maxHeartbeats 4000000
namespace Go.Proofs.YthfkfbcopinmiaaGreatDoor
theorem decL_high (l : List UInt8) (h : ¬ atL l 0 < 128) : 128 ≤ (decL l).1:=by
 unfold decL
 rw [if_neg h]
 repeat' split
 all_goals simp_all
 all_goals omega
end Go.Proofs.YthfkfbcopinmiaaGreatDoor
namespace Go.Proofs.YthfkfbcopinmiaaGreatDoor
open Go.RowKit
end Go.Proofs.YthfkfbcopinmiaaGreatDoor
namespace Go.Proofs.YthfkfbcopinmiaaGreatDoor
open Go.RowKit
end Go.Proofs.YthfkfbcopinmiaaGreatDoor
namespace Go.Proofs.YthfkfbcopinmiaaGreatDoor
open Go.RowKit
theorem cloneS_any (s : ByteArray) (w : World) (hs : s.size ≤ 281474976710656) : Calls Tryz.prog 70 #[.string s] w fun e w'=>e = .returned (.string s) ∧ Below w.heap.size w w':=by
 go_enter Tryz.func70,Tryz.ntmps70
 go_wp2_with (go_at_call 108;refine (Tryz.stringslite_Clone s _ hs).mono ?_;rintro e w' ⟨rfl,hb⟩)
 go_ret
 exact ⟨rfl,hb⟩
end Go.Proofs.YthfkfbcopinmiaaGreatDoor
namespace Go.Proofs.YthfkfbcopinmiaaGreatDoor
open Go.RowKit
end Go.Proofs.YthfkfbcopinmiaaGreatDoor
set_option maxRecDepth 100000
set_option maxHeartbeats 4000000
namespace Go.Proofs.YthfkfbcopinmiaaGreatDoor
open Go.RowKit
end Go.Proofs.YthfkfbcopinmiaaGreatDoor
set_option linter.unusedVariables false
set_option maxRecDepth 100000
set_option maxHeartbeats 4000000
namespace Go.Proofs.YthfkfbcopinmiaaGreatDoor
open Go.RowKit
def tokV (t : Tk) (a : Int) : Value:=.agg #[.int .i64 t.1,.string ⟨t.2.1.toArray⟩,.int .i64 t.2.2,.int .i64 a]
theorem four_of {W1 : World} {n : Nat} {a b c d : Value} {t : TypeId} (hb : W1.heap[n]? = some (.cells #[a,b,c,d] t)) :
 (W1.cell? ⟨n,0,none⟩ = some a ∧ W1.cell? ⟨n,1,none⟩ = some b ∧ W1.cell? ⟨n,2,none⟩ = some c ∧ W1.cell? ⟨n,3,none⟩ = some d) ∧
 (W1.frozen? ⟨n,0,none⟩ = false ∧ W1.frozen? ⟨n,1,none⟩ = false ∧ W1.frozen? ⟨n,2,none⟩ = false ∧ W1.frozen? ⟨n,3,none⟩ = false):=by
 refine ⟨⟨?_,?_,?_,?_⟩,?_,?_,?_,?_⟩
 ·rw [cell_of_row W1 _ 0 _ _ _ hb];rfl
 ·rw [cell_of_row W1 _ 1 _ _ _ hb];rfl
 ·rw [cell_of_row W1 _ 2 _ _ _ hb];rfl
 ·rw [cell_of_row W1 _ 3 _ _ _ hb];rfl
 ·exact frozen_of_row W1 _ 0 _ _ hb
 ·exact frozen_of_row W1 _ 1 _ _ hb
 ·exact frozen_of_row W1 _ 2 _ _ hb
 ·exact frozen_of_row W1 _ 3 _ _ hb
theorem four_set {W : World} {n : Nat} {a b c d x y z u : Value} {t : TypeId} (hb : W.heap[n]? = some (.cells #[a,b,c,d] t)) :
 ((((W.setCell ⟨n,0,none⟩ x).setCell ⟨n,1,none⟩ y).setCell ⟨n,2,none⟩ z).setCell ⟨n,3,none⟩ u).heap[n]? = some (.cells #[x,y,z,u] t):=by
 have h1:=heap_setCell_same W n 0 _ t x hb
 have h2:=heap_setCell_same _ n 1 _ t y h1
 have h3:=heap_setCell_same _ n 2 _ t z h2
 have h4:=heap_setCell_same _ n 3 _ t u h3
 exact h4
theorem four_below {B : Nat} {w W : World} {n : Nat} {x y z u : Value} (hb : Below B w W) (hn : B ≤ n) : Below B w ((((W.setCell ⟨n,0,none⟩ x).setCell ⟨n,1,none⟩ y).setCell ⟨n,2,none⟩ z).setCell ⟨n,3,none⟩ u) :=
 (((hb.setCell hn _).setCell hn _).setCell hn _).setCell hn _
theorem four_new {w W1 : World} {o : Obj} (hb : Below (w.alloc o).heap.size (w.alloc o) W1) : W1.heap[w.heap.size]? = some o:=by
 rw [hb.block _ (by simp)]
 exact heap_alloc_new w o
theorem cut_list (s : ByteArray) (k : Nat) : s.extract 0 k = ⟨(s.data.toList.take k).toArray⟩:=by
 apply ByteArray.ext
 apply Array.toList_inj.1
 rw [ByteArray.data_extract,Array.toList_extract,List.extract_eq_take_drop]
 simp
end Go.Proofs.YthfkfbcopinmiaaGreatDoor
namespace Go.Proofs.YthfkfbcopinmiaaGreatDoor
open Go.RowKit
theorem find_step {α : Type} {p : α → Bool} {l : List α} {k : Nat} {x : α} (hk : l[k]? = some x) (h : ∀ y ∈ l.take k,p y = false) (hx : p x = true) : l.find? p = some x:=by
 induction l generalizing k with
 | nil=>simp at hk
 | cons y r ih =>
  cases k with
  | zero =>
   have : y = x:=by simpa using hk
   subst this
   simp [hx]
  | succ k =>
   have h0:=h y (by simp)
   simp only [List.find?_cons,h0]
   exact ih (by simpa using hk) (fun z hz=>h z (by simp [hz]))
end Go.Proofs.YthfkfbcopinmiaaGreatDoor
set_option linter.unusedVariables false
set_option maxRecDepth 100000
set_option maxHeartbeats 2000000
namespace Go.Proofs.YthfkfbcopinmiaaGreatDoor
open Go.RowKit
theorem drewN_below4 (w : World) (n : Nat) : Below w.heap.size w (w.drewN n):=⟨rfl,rfl,rfl,Nat.le_refl _,fun _ _=>rfl⟩
end Go.Proofs.YthfkfbcopinmiaaGreatDoor
set_option linter.unusedVariables false
set_option maxRecDepth 100000
set_option maxHeartbeats 8000000
namespace Go.Proofs.YthfkfbcopinmiaaGreatDoor
open Go.RowKit
end Go.Proofs.YthfkfbcopinmiaaGreatDoor
set_option linter.unusedVariables false
namespace Go.Proofs.YthfkfbcopinmiaaGreatDoor
theorem unqS_len : ∀ (m : Nat) (l : Bs) (u : Unq) (pos : Nat) (t : Bs) (n : Nat),l.length ≤ m → unqS (scan l) u pos = some (t,n) → pos + 1 ≤ n ∧ n ≤ pos + l.length
 | m,[],u,pos,t,n,_,h=>by rw [scan_nil] at h;cases h
 | 0,c :: r,u,pos,t,n,hm,h=>by simp at hm
 | m + 1,c :: r,u,pos,t,n,hm,h=>by
  have hne : (c :: r) ≠ []:=by simp
  have hw:=decL_width (c :: r)
  have hle:=decL_le (c :: r) hne
  cases hs : strayL (c :: r)
  ·cases hu : stepU u (decL (c :: r)).1 with
   | none=>rw [unqS_none _ hne hs u pos hu] at h;cases h
   | some u' =>
    by_cases h5 : u'.st = 5
    ·rw [unqS_end _ hne hs u u' pos hu h5] at h
     cases h
     exact ⟨Nat.le_refl _,by simp⟩
    ·rw [unqS_more _ hne hs u u' pos hu h5] at h
     have ih:=unqS_len m _ u' _ t n (by simp only [List.length_drop];simp only [List.length_cons] at hm ⊢;omega) h
     simp only [List.length_drop] at ih
     omega
  ·rw [unqS_stray _ hne hs u pos] at h;cases h
theorem unquoteL_len {l t : Bs} {n : Nat} (h : unquoteL l = some (t,n)) : 1 ≤ n ∧ n ≤ l.length:=by
 have:=unqS_len l.length l _ 0 t n (Nat.le_refl _) h
 omega
theorem digsL_le (l : Bs) : (digsL l).length ≤ l.length:=(List.takeWhile_sublist _).length_le
theorem digsL_pos {l : Bs} (hl : l ≠ []) (h : digC (atL l 0) = true) : 1 ≤ (digsL l).length:=by
 cases l with
 | nil=>exact absurd rfl hl
 | cons c r =>
  have : digC c.toNat = true:=by simpa [atL] using h
  simp [digsL,this]
theorem signsL_pos : ∀ g ∈ signsL,1 ≤ g.length:=by decide
theorem next_len {l : Bs} {sc : Bool} {x : Tk × Nat} (hl : l ≠ []) (h : nextL l sc = .ok x) : 1 ≤ x.2 ∧ x.2 ≤ l.length:=by
 unfold nextL at h
 split at h
 ·rename_i h1
  cases h
  exact ⟨h1,nameL_le l sc⟩
 ·split at h
  ·rename_i h2
   unfold numbL at h
   split at h
   ·cases h
   ·split at h
    ·cases h
    ·cases h
     exact ⟨digsL_pos hl h2,digsL_le l⟩
  ·split at h
   ·unfold unqNx at h
    split at h
    ·rename_i y hy
     cases h
     exact unquoteL_len (t:=y.1) (n:=y.2) hy
    ·cases h
   ·unfold signNx at h
    split at h
    ·rename_i g hg
     cases h
     have hm:=List.mem_of_find?_eq_some hg
     have hp:=List.find?_some hg
     exact ⟨signsL_pos g hm,(List.isPrefixOf_iff_prefix.1 hp).length_le⟩
    ·cases h
theorem lexF_more : ∀ (f g a : Nat) (l : Bs) (sc : Bool),l.length < f → l.length < g → lexF f a l sc = lexF g a l sc
 | f + 1,g + 1,a,l,sc,hf,hg=>by
  unfold lexF
  split
  ·rfl
  ·split
   ·rfl
   ·rename_i hne
    cases hx : nextL (l.drop (pastL l).1) sc with
    | error e=>rfl
    | ok x =>
     have hl:=next_len hne hx
     have hp:=pastL_le l
     simp only [List.length_drop] at hl
     simp only
     rw [lexF_more f g _ _ sc (by simp;omega) (by simp;omega)]
theorem lexL_eq (a : Nat) (l : Bs) (sc : Bool) : lexL a l sc =
 if (pastL l).2 = false then .error (a + (pastL l).1,40)
 else if l.drop (pastL l).1 = [] then .ok []
 else match nextL (l.drop (pastL l).1) sc with
  | .error e=>.error (a + (pastL l).1,e)
  | .ok x=>consL (x.1,a + (pastL l).1) (lexL (a + (pastL l).1 + x.2) (l.drop ((pastL l).1 + x.2)) sc):=by
 conv=>lhs;unfold lexL lexF
 split
 ·rfl
 ·split
  ·rfl
  ·rename_i hne
   cases hx : nextL (l.drop (pastL l).1) sc with
   | error e=>rfl
   | ok x =>
    have hl:=next_len hne hx
    have hp:=pastL_le l
    simp only [List.length_drop] at hl
    simp only
    unfold lexL
    rw [lexF_more l.length ((l.drop ((pastL l).1 + x.2)).length + 1) _ _ sc (by simp;omega) (by omega)]
def preL (d : List (Tk × Nat)) : Lx → Lx
 | .error e=>.error e
 | .ok ts=>.ok (d ++ ts)
theorem preL_nil (x : Lx) : preL [] x = x:=by cases x <;> rfl
theorem preL_cons (d : List (Tk × Nat)) (t : Tk × Nat) (x : Lx) : preL d (consL t x) = preL (d ++ [t]) x:=by
 cases x
 ·rfl
 ·simp [preL,consL]
end Go.Proofs.YthfkfbcopinmiaaGreatDoor
set_option linter.unusedVariables false
set_option maxRecDepth 100000
set_option maxHeartbeats 2000000
namespace Go.Proofs.YthfkfbcopinmiaaGreatDoor
open Go.RowKit
def tokCells (x : Tk × Int) : List Value:=[.int .i64 x.1.1,.string ⟨x.1.2.1.toArray⟩,.int .i64 x.1.2.2,.int .i64 x.2]
def rowT (ts : List (Tk × Int)) : List Value:=ts.flatMap tokCells
theorem rowT_snoc (ts : List (Tk × Int)) (x : Tk × Int) : rowT (ts ++ [x]) = rowT ts ++ tokCells x:=by simp [rowT]
abbrev ToksAt (w : World) (base : Nat) (v : Value) (ts : List (Tk × Int)) : Prop:=w.ownsRow base 37 4 v ts.length (rowT ts)
def ints (ts : List (Tk × Nat)) : List (Tk × Int):=ts.map fun x=>(x.1,(x.2 : Int))
theorem ints_length (ts : List (Tk × Nat)) : (ints ts).length = ts.length:=by simp [ints]
theorem ints_snoc (ts : List (Tk × Nat)) (x : Tk × Nat) : ints (ts ++ [x]) = ints ts ++ [(x.1,(x.2 : Int))]:=by simp [ints]
theorem info_tok : (Tryz.prog.info? 37).map (fun i=>(i.zero,i.size,i.bytes)) = some (some (.agg #[.int .i64 0,.string ByteArray.empty,.int .i64 0,.int .i64 0]),4,40):=by kernel_rfl
theorem add_plain (b o n : Nat) : (⟨b,o,none⟩ : Addr).add n = ⟨b,o + n,none⟩:=by
 unfold Addr.add
 split
 ·rename_i h;subst h;rfl
 ·rfl
theorem cells_new (w : World) (cs : Array Value) (t : TypeId) : ∀ j u,cs.toList[j]? = some u → (w.alloc (.cells cs t)).cell? ((⟨w.heap.size,0,none⟩ : Addr).add j) = some u:=by
 intro j u h
 rw [add_plain,cell_of_row _ _ (0 + j) cs t (0,0) (heap_alloc_new w _)]
 simpa using h
theorem cells_new2 (w : World) (cs : Array Value) (t : TypeId) (n : Nat) (hn : n = w.heap.size) : ∀ j u,cs.toList[j]? = some u → (w.alloc (.cells cs t)).cell? ((⟨n,0,none⟩ : Addr).add j) = some u:=by
 subst hn
 exact cells_new w cs t
theorem toks_app {w : World} {base : Nat} {v : Value} {ts : List (Tk × Int)} {x : Tk × Int} (h : w.ownsRow base 37 4 v (ts.length + 1) (rowT ts ++ tokCells x)) : ToksAt w base v (ts ++ [x]):=by
 have e1 : (ts ++ [x]).length = ts.length + 1:=by simp
 unfold ToksAt
 rw [e1,rowT_snoc]
 exact h
theorem next_err {l : Bs} {sc : Bool} {c : Nat} (h : nextL l sc = .error c) : c = 40 ∨ c = 41:=by
 unfold nextL at h
 split at h
 ·cases h
 ·split at h
  ·unfold numbL at h
   split at h
   ·cases h;exact .inl rfl
   ·split at h
    ·cases h;exact .inr rfl
    ·cases h
  ·split at h
   ·unfold unqNx at h
    split at h
    ·cases h
    ·cases h;exact .inl rfl
   ·unfold signNx at h
    split at h
    ·cases h
    ·cases h;exact .inl rfl
def lexRes (r : Lx) (base : Nat) (e : Ending) (w' : World) : Prop:=match r with
 | .ok ts=>∃ v,e = .returned (.tuple #[v,.int .i64 0,.int .i64 0]) ∧ ToksAt w' base v (ints ts)
 | .error x=>e = .returned (.tuple #[.slice none 0 0,.int .i64 (x.1 : Nat),.int .i64 (x.2 : Nat)])
end Go.Proofs.YthfkfbcopinmiaaGreatDoor
