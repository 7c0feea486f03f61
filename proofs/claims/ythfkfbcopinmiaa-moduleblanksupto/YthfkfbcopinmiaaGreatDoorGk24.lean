/- Own text. The contract of the document's function that reads the rune with which a text begins. Tokens of a source,as rows of bytes: names,numbers,texts,signs,blanks and notes;all tokens of a text. The document's reader of names,blanks and notes. The document's reader of names,and of blanks and notes. -/
import Derived.Test.YthfkfbcopinmiaaGreatDoorGk22
import Derived.Handy
import Derived.Test.YthfkfbcopinmiaaGreatDoorGk23
import Derived.WalkKit
import Derived.WalkSmall
set_option maxRecDepth 100000
set_option maxHeartbeats 4000000
namespace Go.Proofs.YthfkfbcopinmiaaGreatDoor
open Go.RowKit
def headL (l : List UInt8) : Int × Int:=if strayL l then (1,-1) else (((decL l).2 : Int),((decL l).1 : Int))
def headZ (n b0 b1 b2 b3 : Int) : Int × Int :=
 if b0 < 128 then (1,b0)
 else if b0 < 192 then (1,-1)
 else if b0 < 224 then
  if 2 ≤ n∧128 ≤ b1∧b1 < 192∧128 ≤ (b0 - 192) * 64+b1 - 128 then (2,(b0 - 192) * 64+b1 - 128) else (1,-1)
 else if b0 < 240 then
  if 3 ≤ n∧128 ≤ b1∧b1 < 192∧128 ≤ b2∧b2 < 192∧2048 ≤ ((b0 - 224) * 64+b1 - 128) * 64+b2 - 128∧¬ (55296 ≤ ((b0 - 224) * 64+b1 - 128) * 64+b2 - 128∧((b0 - 224) * 64+b1 - 128) * 64+b2 - 128 < 57344) then (3,((b0 - 224) * 64+b1 - 128) * 64+b2 - 128) else (1,-1)
 else if b0 < 248 then
  if 4 ≤ n∧128 ≤ b1∧b1 < 192∧128 ≤ b2∧b2 < 192∧128 ≤ b3∧b3 < 192∧65536 ≤ (((b0 - 240) * 64+b1 - 128) * 64+b2 - 128) * 64+b3 - 128∧(((b0 - 240) * 64+b1 - 128) * 64+b2 - 128) * 64+b3 - 128 ≤ 1114111 then (4,(((b0 - 240) * 64+b1 - 128) * 64+b2 - 128) * 64+b3 - 128) else (1,-1)
 else (1,-1)
theorem headL_of {l : List UInt8} {r n : Nat} (h : decL l=(r,n)) (hne : ¬ (r=65533∧n=1)) : headL l=((n : Int),(r : Int)):=by
 rw [headL,strayL,h,if_neg (by simp;omega)]
theorem headL_bad {l : List UInt8} (h : decL l=(65533,1)) : headL l=(1,-1):=by
 rw [headL,strayL,h];rfl
theorem pair_eq {a b c d : Int} (h1 : a=c) (h2 : b=d) : (a,b)=(c,d):=by rw [h1,h2]
theorem headL_eq (l : List UInt8) : headL l=headZ l.length (atL l 0) (atL l 1) (atL l 2) (atL l 3):=by
 have a0:=atL_lt l 0
 have a1:=atL_lt l 1
 have a2:=atL_lt l 2
 have a3:=atL_lt l 3
 obtain ⟨d,hd⟩ : ∃ d,decL l=d:=⟨_,rfl⟩
 have hd':=hd
 unfold decL contL Utf8.valid at hd
 generalize atL l 0=b0 at *
 generalize atL l 1=b1 at *
 generalize atL l 2=b2 at *
 generalize atL l 3=b3 at *
 generalize l.length=n at *
 unfold headZ
 by_cases h1 : b0 < 128
 ·rw [if_pos h1] at hd
  rw [if_pos (by omega),headL_of (hd'.trans hd.symm) (by omega)]
  rfl
 rw [if_neg h1] at hd
 rw [if_neg (by omega)]
 by_cases h2 : b0 < 192
 ·rw [if_neg (by simp;omega),if_neg (by simp;omega),if_neg (by simp;omega)] at hd
  rw [if_pos (by omega),headL_bad (hd'.trans hd.symm)]
 rw [if_neg (by omega)]
 by_cases h3 : b0 < 224
 ·rw [if_pos (by omega)]
  by_cases hq : (b0 / 32 == 6 && (decide (1 < n) && b1 / 64 == 2))=true
  ·rw [if_pos hq] at hd
   simp at hq
   by_cases hv : 128 ≤ b0 % 32 * 64+b1 % 64
   ·rw [if_pos (by omega)] at hd
    rw [if_pos (by omega),headL_of (hd'.trans hd.symm) (by omega)]
    exact pair_eq rfl (by omega)
   ·rw [if_neg (by omega)] at hd
    rw [if_neg (by omega),headL_bad (hd'.trans hd.symm)]
  ·rw [if_neg hq,if_neg (by simp;omega),if_neg (by simp;omega)] at hd
   simp at hq
   rw [if_neg (by omega),headL_bad (hd'.trans hd.symm)]
 rw [if_neg (by omega)]
 rw [if_neg (show ¬ (b0 / 32 == 6 && (decide (1 < n) && b1 / 64 == 2))=true by simp;omega)] at hd
 by_cases h4 : b0 < 240
 ·rw [if_pos (by omega)]
  by_cases hq : (b0 / 16 == 14 && (decide (1 < n) && b1 / 64 == 2) && (decide (2 < n) && b2 / 64 == 2))=true
  ·rw [if_pos hq] at hd
   simp at hq
   by_cases hv : (2048 ≤ b0 % 16 * 4096+b1 % 64 * 64+b2 % 64∧¬ (55296 ≤ b0 % 16 * 4096+b1 % 64 * 64+b2 % 64∧b0 % 16 * 4096+b1 % 64 * 64+b2 % 64 < 57344))
   ·rw [if_pos (by simp;omega)] at hd
    rw [if_pos (by omega),headL_of (hd'.trans hd.symm) (by omega)]
    exact pair_eq rfl (by omega)
   ·rw [if_neg (by simp;omega)] at hd
    rw [if_neg (by omega),headL_bad (hd'.trans hd.symm)]
  ·rw [if_neg hq,if_neg (by simp;omega)] at hd
   simp at hq
   rw [if_neg (by omega),headL_bad (hd'.trans hd.symm)]
 rw [if_neg (by omega)]
 rw [if_neg (show ¬ (b0 / 16 == 14 && (decide (1 < n) && b1 / 64 == 2) && (decide (2 < n) && b2 / 64 == 2))=true by simp;omega)] at hd
 by_cases h5 : b0 < 248
 ·rw [if_pos (by omega)]
  by_cases hq : (b0 / 8 == 30 && (decide (1 < n) && b1 / 64 == 2) && (decide (2 < n) && b2 / 64 == 2) && (decide (3 < n) && b3 / 64 == 2))=true
  ·rw [if_pos hq] at hd
   simp at hq
   by_cases hv : (65536 ≤ b0 % 8 * 262144+b1 % 64 * 4096+b2 % 64 * 64+b3 % 64∧b0 % 8 * 262144+b1 % 64 * 4096+b2 % 64 * 64+b3 % 64 ≤ 1114111)
   ·rw [if_pos (by simp;omega)] at hd
    rw [if_pos (by omega),headL_of (hd'.trans hd.symm) (by omega)]
    exact pair_eq rfl (by omega)
   ·rw [if_neg (by simp;omega)] at hd
    rw [if_neg (by omega),headL_bad (hd'.trans hd.symm)]
  ·rw [if_neg hq] at hd
   simp at hq
   rw [if_neg (by omega),headL_bad (hd'.trans hd.symm)]
 rw [if_neg (by simp;omega)] at hd
 rw [if_neg (by omega),headL_bad (hd'.trans hd.symm)]
theorem ret_ii {a b c d : Int} (h : (a,b)=(c,d)) : Ending.returned (.tuple #[.int .i64 a,.int .i64 b]) = .returned (.tuple #[.int .i64 c,.int .i64 d]):=by
 cases h;rfl
theorem byte_at (s : ByteArray) (k : Nat) (h : k < s.size) : (s[k]'h).toNat=atL s.data.toList k:=by
 rw [← get_at s k h,get_drop]
 unfold atL
 simp
theorem head_any (s : ByteArray) (w : World) (h0 : 0 < s.size) (hs : s.size ≤ maxLen) :
 Calls Tryz.prog 63 #[.string s] w fun e w'=>e = .returned (.tuple #[.int .i64 (headL s.data.toList).1,.int .i64 (headL s.data.toList).2])∧w'=w:=by
 unfold maxLen at hs
 have hz:=headL_eq s.data.toList
 rw [← Lib.size_eq] at hz
 have l0:=atL_lt s.data.toList 0
 have l1:=atL_lt s.data.toList 1
 have l2:=atL_lt s.data.toList 2
 have l3:=atL_lt s.data.toList 3
 have e0:=byte_at s 0
 have e1:=byte_at s 1
 have e2:=byte_at s 2
 have e3:=byte_at s 3
 generalize atL s.data.toList 0=b0 at *
 generalize atL s.data.toList 1=b1 at *
 generalize atL s.data.toList 2=b2 at *
 generalize atL s.data.toList 3=b3 at *
 generalize headL s.data.toList=r at *
 obtain ⟨r1,r2⟩:=r
 have HZ : Hid ((r1,r2)=headZ s.size b0 b1 b2 b3):=hz
 clear hz
 by_cases c1 : b0 < 192
 ·clear e1 e2 e3 l1 l2 l3
  go_enter Tryz.func63,Tryz.ntmps63
  go_wp2
  all_goals go_ret2
  all_goals (refine ⟨ret_ii ?_,rfl⟩;rw [HZ.out,headZ];repeat' (first | rw [if_pos (by omega)] | rw [if_neg (by omega)]))
 by_cases c2 : b0 < 224
 ·clear e2 e3 l2 l3
  by_cases hn : s.size < 2
  ·clear e1
   go_enter Tryz.func63,Tryz.ntmps63
   go_wp2
   all_goals go_ret2
   all_goals (refine ⟨ret_ii ?_,rfl⟩;rw [HZ.out,headZ];repeat' (first | rw [if_pos (by omega)] | rw [if_neg (by omega)]))
  ·go_enter Tryz.func63,Tryz.ntmps63
   go_wp2
   go_rounds 2
   all_goals go_ret2
   all_goals (refine ⟨ret_ii ?_,rfl⟩;rw [HZ.out,headZ];repeat' (first | rw [if_pos (by omega)] | rw [if_neg (by omega)]))
 by_cases c3 : b0 < 240
 ·clear e3 l3
  by_cases hn : s.size < 3
  ·clear e1 e2
   go_enter Tryz.func63,Tryz.ntmps63
   go_wp2
   all_goals go_ret2
   all_goals (refine ⟨ret_ii ?_,rfl⟩;rw [HZ.out,headZ];repeat' (first | rw [if_pos (by omega)] | rw [if_neg (by omega)]))
  ·go_enter Tryz.func63,Tryz.ntmps63
   go_wp2
   go_rounds 3
   all_goals go_ret2
   all_goals (refine ⟨ret_ii ?_,rfl⟩;rw [HZ.out,headZ];repeat' (first | rw [if_pos (by omega)] | rw [if_neg (by omega)]))
 by_cases c4 : b0 < 248
 ·by_cases hn : s.size < 4
  ·clear e1 e2 e3
   go_enter Tryz.func63,Tryz.ntmps63
   go_wp2
   all_goals go_ret2
   all_goals (refine ⟨ret_ii ?_,rfl⟩;rw [HZ.out,headZ];repeat' (first | rw [if_pos (by omega)] | rw [if_neg (by omega)]))
  ·go_enter Tryz.func63,Tryz.ntmps63
   go_wp2
   go_rounds 4
   all_goals go_ret2
   all_goals (refine ⟨ret_ii ?_,rfl⟩;rw [HZ.out,headZ];repeat' (first | rw [if_pos (by omega)] | rw [if_neg (by omega)]))
 ·clear e1 e2 e3 l1 l2 l3
  go_enter Tryz.func63,Tryz.ntmps63
  go_wp2
  all_goals go_ret2
  all_goals (refine ⟨ret_ii ?_,rfl⟩;rw [HZ.out,headZ];repeat' (first | rw [if_pos (by omega)] | rw [if_neg (by omega)]))
end Go.Proofs.YthfkfbcopinmiaaGreatDoor
set_option linter.unusedVariables false
set_option maxHeartbeats 2000000
namespace Go.Proofs.YthfkfbcopinmiaaGreatDoor
abbrev Bs := List UInt8
abbrev Tk := Int × Bs × Int
def begL (l : Bs) (sc : Bool) : Nat :=
 if l=[] then 0
 else if atL l 0=95 ∨ (sc=true∧atL l 0=36) then 1
 else if strayL l=false∧letterB (decL l).1=true then (decL l).2 else 0
def digC (c : Nat) : Bool:=decide (48 ≤ c) && decide (c ≤ 57)
def onL (l : Bs) (sc : Bool) : Nat:=if begL l sc ≠ 0 then begL l sc else if l ≠ []∧digC (atL l 0)=true then 1 else 0
def tailF : Nat→Bs→Bool→Nat
 | 0,_,_=>0
 | f+1,l,sc=>if onL l sc=0 then 0 else onL l sc+tailF f (l.drop (onL l sc)) sc
def tailL (l : Bs) (sc : Bool) : Nat:=tailF l.length l sc
def nameL (l : Bs) (sc : Bool) : Nat:=if begL l sc=0 then 0 else begL l sc+tailL (l.drop (begL l sc)) sc
def isBl (c : UInt8) : Bool:=c == 9 || c == 10 || c == 13 || c == 32
def lineL : Bs→Nat
 | []=>0
 | c :: r=>if c=10 then 0 else lineL r+1
def noteL : Bs→Option Nat
 | []=>none
 | c :: r=>if c=42∧r.head?=some 47 then some 2 else (noteL r).map (· + 1)
def pastF : Nat→Bs→Nat × Bool
 | 0,_=>(0,true)
 | f+1,[]=>(0,true)
 | f+1,c :: r =>
  if isBl c then ((pastF f r).1+1,(pastF f r).2)
  else if c=47∧r.head?=some 47 then ((pastF f (r.drop (lineL r))).1+(lineL r+1),(pastF f (r.drop (lineL r))).2)
  else if c=47∧r.head?=some 42 then
   match noteL r.tail with
   | none=>(0,false)
   | some k=>((pastF f (r.tail.drop k)).1+(k+2),(pastF f (r.tail.drop k)).2)
  else (0,true)
def pastL (l : Bs) : Nat × Bool:=pastF l.length l
def wordsL : List Bs:=[[99,108,97,115,115],[99,111,110,115,116],[100,101,102,97,117,108,116],[101,108,115,101],[101,120,112,111,114,116],[102,97,108,115,101],[102,117,110,99,116,105,111,110],[105,102],[105,109,112,111,114,116],[108,101,116],[110,101,119],[110,117,108,108],[114,101,116,117,114,110],[116,104,105,115],[116,104,114,111,119],[116,114,117,101],[116,121,112,101,111,102],[117,110,100,101,102,105,110,101,100],[119,104,105,108,101]]
def wordB (l : Bs) : Bool:=wordsL.contains l
def signsL : List Bs:=[[61,61,61],[33,61,61],[60,61],[62,61],[38,38],[124,124],[61,62],[123],[125],[40],[41],[91],[93],[59],[44],[58],[46],[63],[61],[43],[45],[42],[47],[37],[60],[62],[33],[124]]
def digsL (l : Bs) : Bs:=l.takeWhile fun c=>digC c.toNat
def decN (n : Nat) (l : Bs) : Nat:=l.foldl (fun n c=>10 * n+(c.toNat - 48)) n
abbrev Nx := Except Nat (Tk × Nat)
def numbL (l : Bs) (sc : Bool) : Nx :=
 if (1 < (digsL l).length∧atL l 0=48) ∨ 0 < begL (l.drop (digsL l).length) sc then .error 40
 else if 9007199254740991 < decN 0 (digsL l) then .error 41
 else .ok ((3,[],(decN 0 (digsL l) : Int)),(digsL l).length)
def unqNx (l : Bs) : Nx:=match unquoteL l with
 | some x=>.ok ((4,x.1,0),x.2)
 | none=>.error 40
def signNx (l : Bs) : Nx:=match signsL.find? (fun g=>g.isPrefixOf l) with
 | some g=>.ok ((5,g,0),g.length)
 | none=>.error 40
def nextL (l : Bs) (sc : Bool) : Nx :=
 if 0 < nameL l sc then .ok (((if wordB (l.take (nameL l sc)) then 2 else 1),l.take (nameL l sc),0),nameL l sc)
 else if digC (atL l 0)=true then numbL l sc
 else if atL l 0=34 ∨ atL l 0=39 then unqNx l else signNx l
abbrev Lx := Except (Nat × Nat) (List (Tk × Nat))
def consL (x : Tk × Nat) : Lx→Lx
 | .error e=>.error e
 | .ok ts=>.ok (x :: ts)
def lexF : Nat→Nat→Bs→Bool→Lx
 | 0,_,_,_=>.ok []
 | f+1,a,l,sc =>
  if (pastL l).2=false then .error (a+(pastL l).1,40)
  else if l.drop (pastL l).1=[] then .ok []
  else match nextL (l.drop (pastL l).1) sc with
   | .error e=>.error (a+(pastL l).1,e)
   | .ok x=>consL (x.1,a+(pastL l).1) (lexF f (a+(pastL l).1+x.2) (l.drop ((pastL l).1+x.2)) sc)
def lexL (a : Nat) (l : Bs) (sc : Bool) : Lx:=lexF (l.length+1) a l sc
def isTk (s : Bs) (t : Tk) : Bool:=match lexL 0 s true with
 | .ok [x]=>x.1 == t
 | _=>false
theorem begL_le (l : Bs) (sc : Bool) : begL l sc ≤ l.length:=by
 unfold begL
 split
 ·exact Nat.zero_le _
 ·rename_i h
  have h1:=decL_le l h
  have h0 : 1 ≤ l.length:=by cases l <;> simp_all
  split
  ·exact h0
  ·split
   ·exact h1
   ·exact Nat.zero_le _
theorem onL_le (l : Bs) (sc : Bool) : onL l sc ≤ l.length:=by
 have h:=begL_le l sc
 unfold onL
 split
 ·exact h
 ·split
  ·rename_i h1
   have h0 : 1 ≤ l.length:=by cases l <;> simp_all
   exact h0
  ·exact Nat.zero_le _
theorem tailF_more : ∀ (f g : Nat) (l : Bs) (sc : Bool),l.length ≤ f→l.length ≤ g→tailF f l sc=tailF g l sc
 | 0,g,l,sc,hf,_=>by
  have hl : l=[]:=List.eq_nil_of_length_eq_zero (by omega)
  subst hl
  cases g <;> simp [tailF,onL,begL]
 | f+1,0,l,sc,_,hg=>by
  have hl : l=[]:=List.eq_nil_of_length_eq_zero (by omega)
  subst hl
  simp [tailF,onL,begL]
 | f+1,g+1,l,sc,hf,hg=>by
  have h:=onL_le l sc
  unfold tailF
  split
  ·rfl
  ·rw [tailF_more f g _ sc (by simp;omega) (by simp;omega)]
theorem tailL_eq (l : Bs) (sc : Bool) : tailL l sc=if onL l sc=0 then 0 else onL l sc+tailL (l.drop (onL l sc)) sc:=by
 have h:=onL_le l sc
 unfold tailL
 cases hl : l.length with
 | zero =>
  have : l=[]:=List.eq_nil_of_length_eq_zero hl
  subst this
  simp [tailF,onL,begL]
 | succ n =>
  conv=>lhs;unfold tailF
  split
  ·rfl
  ·rw [tailF_more n (l.drop (onL l sc)).length _ sc (by simp;omega) (Nat.le_refl _)]
theorem tailF_le : ∀ (f : Nat) (l : Bs) (sc : Bool),tailF f l sc ≤ l.length
 | 0,l,sc=>Nat.zero_le _
 | f+1,l,sc=>by
  have h:=onL_le l sc
  have ih:=tailF_le f (l.drop (onL l sc)) sc
  simp only [List.length_drop] at ih
  unfold tailF
  split
  ·exact Nat.zero_le _
  ·omega
theorem tailL_le (l : Bs) (sc : Bool) : tailL l sc ≤ l.length:=tailF_le _ _ _
theorem nameL_le (l : Bs) (sc : Bool) : nameL l sc ≤ l.length:=by
 have h:=begL_le l sc
 have h2:=tailL_le (l.drop (begL l sc)) sc
 simp only [List.length_drop] at h2
 unfold nameL
 split
 ·exact Nat.zero_le _
 ·omega
theorem lineL_le : ∀ l : Bs,lineL l ≤ l.length
 | []=>Nat.le_refl _
 | c :: r=>by
  have:=lineL_le r
  unfold lineL
  split <;> simp
  omega
theorem noteL_le : ∀ (l : Bs) (k : Nat),noteL l=some k→2 ≤ k∧k ≤ l.length
 | c :: r,k,h=>by
  unfold noteL at h
  split at h
  ·rename_i hc
   cases h
   cases r with
   | nil=>simp at hc
   | cons d r=>simp
  ·cases hn : noteL r with
   | none=>rw [hn] at h;cases h
   | some j =>
    rw [hn] at h
    have:=noteL_le r j hn
    cases h
    simp
    omega
theorem pastF_more : ∀ (f g : Nat) (l : Bs),l.length ≤ f→l.length ≤ g→pastF f l=pastF g l
 | 0,g,l,hf,_=>by
  have hl : l=[]:=List.eq_nil_of_length_eq_zero (by omega)
  subst hl
  cases g <;> rfl
 | f+1,0,l,_,hg=>by
  have hl : l=[]:=List.eq_nil_of_length_eq_zero (by omega)
  subst hl
  rfl
 | f+1,g+1,[],_,_=>rfl
 | f+1,g+1,c :: r,hf,hg=>by
  simp only [List.length_cons] at hf hg
  unfold pastF
  rw [pastF_more f g r (by omega) (by omega),pastF_more f g (r.drop (lineL r)) (by simp;omega) (by simp;omega)]
  have h2 : ∀ k,pastF f (r.tail.drop k)=pastF g (r.tail.drop k):=fun k=>pastF_more f g _ (by simp;omega) (by simp;omega)
  simp only [h2]
theorem pastL_nil : pastL []=(0,true):=rfl
theorem pastL_cons (c : UInt8) (r : Bs) : pastL (c :: r) =
 if isBl c then ((pastL r).1+1,(pastL r).2)
 else if c=47∧r.head?=some 47 then ((pastL (r.drop (lineL r))).1+(lineL r+1),(pastL (r.drop (lineL r))).2)
 else if c=47∧r.head?=some 42 then
  match noteL r.tail with
  | none=>(0,false)
  | some k=>((pastL (r.tail.drop k)).1+(k+2),(pastL (r.tail.drop k)).2)
 else (0,true):=by
 unfold pastL
 simp only [List.length_cons]
 conv=>lhs;unfold pastF
 have h2 : ∀ k,pastF r.length (r.tail.drop k)=pastF (r.tail.drop k).length (r.tail.drop k):=fun k=>pastF_more _ _ _ (by simp only [List.length_drop,List.length_tail];omega) (Nat.le_refl _)
 rw [pastF_more r.length (r.drop (lineL r)).length (r.drop (lineL r)) (by simp) (Nat.le_refl _)]
 simp only [h2]
theorem pastF_le : ∀ (f : Nat) (l : Bs),(pastF f l).1 ≤ l.length
 | 0,l=>Nat.zero_le _
 | f+1,[]=>Nat.le_refl _
 | f+1,c :: r=>by
  have h1:=pastF_le f r
  have h2:=pastF_le f (r.drop (lineL r))
  have h3:=lineL_le r
  simp only [List.length_drop] at h2
  unfold pastF
  split
  ·simp;omega
  ·split
   ·simp;omega
   ·split
    ·split
     ·exact Nat.zero_le _
     ·rename_i k hk
      have h4:=noteL_le _ _ hk
      have h5:=pastF_le f (r.tail.drop k)
      cases r with
      | nil=>simp [noteL] at hk
      | cons d r =>
       simp only [List.tail_cons,List.length_drop,List.length_cons] at h4 h5 ⊢
       omega
    ·exact Nat.zero_le _
theorem pastL_le (l : Bs) : (pastL l).1 ≤ l.length:=pastF_le _ _
end Go.Proofs.YthfkfbcopinmiaaGreatDoor
namespace Go.Proofs.YthfkfbcopinmiaaGreatDoor
open Go.RowKit
theorem byteI (s : ByteArray) (k : Nat) (h : k < s.size) : ((s[k].toNat : Nat) : Int)=((atL s.data.toList k : Nat) : Int):=by rw [byte_at s k h]
theorem empty_iff {s : ByteArray} (h : s.data.toList=[]) : s.toList.isEmpty=true:=by rw [Lib.toList_data,h];rfl
theorem empty_not {s : ByteArray} (h : s.data.toList ≠ []) : s.toList.isEmpty=false:=by
 rw [Lib.toList_data]
 cases hl : s.data.toList with
 | nil=>exact absurd hl h
 | cons _ _=>rfl
theorem pos_of {s : ByteArray} (h : s.data.toList ≠ []) : 0 < s.size:=by rw [Lib.size_eq];exact List.length_pos_iff.2 h
theorem int_eqb {a b : Int} (h : a ≠ b) : (a == b)=false:=by simpa using h
theorem begL_some (l : Bs) (sc : Bool) (h : l ≠ []) : begL l sc=if atL l 0=95 ∨ (sc=true∧atL l 0=36) then 1 else if strayL l=false∧letterB (decL l).1=true then (decL l).2 else 0:=by
 unfold begL
 rw [if_neg h]
theorem begins_any (s : ByteArray) (sc : Bool) (w : World) (hs : s.size ≤ maxLen) : Calls Tryz.prog 61 #[.string s,.bool sc] w fun e w'=>e = .returned (.int .i64 (begL s.data.toList sc : Nat))∧w'=w:=by
 by_cases h0 : s.data.toList=[]
 ·have c1:=empty_iff h0
  have HB : Hid (begL s.data.toList sc=0):=by show _=_;rw [h0];rfl
  clear h0
  go_enter Tryz.func61,Tryz.ntmps61
  go_wp2
  go_ret
  exact ⟨by rw [HB.out];rfl,rfl⟩
 ·have c1:=empty_not h0
  have hpos:=pos_of h0
  have hx:=byteI s 0 hpos
  have hbs:=begL_some s.data.toList sc h0
  by_cases h1 : atL s.data.toList 0=95
  ·have HB : Hid (begL s.data.toList sc=1):=by show _=_;rw [hbs,if_pos (.inl h1)]
   rw [h1] at hx
   clear h0 hbs
   go_enter Tryz.func61,Tryz.ntmps61
   go_wp2
   go_ret
   exact ⟨by rw [HB.out];rfl,rfl⟩
  ·have c2 : (((s[0].toNat : Nat) : Int) == 95)=false:=int_eqb (by rw [hx];omega)
   by_cases h2 : sc=true∧atL s.data.toList 0=36
   ·have HB : Hid (begL s.data.toList sc=1):=by show _=_;rw [hbs,if_pos (.inr h2)]
    obtain ⟨rfl,h2⟩:=h2
    rw [h2] at hx
    clear h0 hbs h1 c2
    go_enter Tryz.func61,Tryz.ntmps61
    go_wp2
    go_ret
    exact ⟨by rw [HB.out];rfl,rfl⟩
   ·rw [if_neg (fun h=>h.elim h1 h2)] at hbs
    have c3 : sc=false ∨ (((s[0].toNat : Nat) : Int) == 36)=false:=by
     cases sc
     ·exact .inl rfl
     ·exact .inr (int_eqb (by rw [hx];have : atL s.data.toList 0 ≠ 36:=fun e=>h2 ⟨rfl,e⟩;omega))
    have hh:=fun W=>head_any s W hpos hs
    clear hx h1 h2 h0
    cases hst : strayL s.data.toList
    ·have e1 : headL s.data.toList=(((decL s.data.toList).2 : Int),((decL s.data.toList).1 : Int)):=by unfold headL;rw [hst];rfl
     rw [e1] at hh
     have hge : (0 : Int) ≤ ((decL s.data.toList).1 : Int):=by omega
     cases hl : letterB ((decL s.data.toList).1 : Int)
     ·have HB : Hid (begL s.data.toList sc=0):=by show _=_;rw [hbs,if_neg (fun h=>by rw [hl] at h;cases h.2)]
      clear hbs e1 hst
      generalize ((decL s.data.toList).1 : Int)=r at *
      generalize ((decL s.data.toList).2 : Int)=n at *
      rcases c3 with rfl | c3
      ·go_enter Tryz.func61,Tryz.ntmps61
       go_wp2_with (first
        | (go_at_call 63;refine (hh _).mono ?_;rintro e W ⟨rfl,rfl⟩)
        | (go_at_call 96;refine (refLetter_any _ _).mono ?_;rintro e W ⟨rfl,rfl⟩;rw [hl]))
       go_ret
       exact ⟨by rw [HB.out];rfl,rfl⟩
      ·go_enter Tryz.func61,Tryz.ntmps61
       go_wp2_with (first
        | (go_at_call 63;refine (hh _).mono ?_;rintro e W ⟨rfl,rfl⟩)
        | (go_at_call 96;refine (refLetter_any _ _).mono ?_;rintro e W ⟨rfl,rfl⟩;rw [hl]))
       all_goals (go_ret;exact ⟨by rw [HB.out];rfl,rfl⟩)
     ·have HB : Hid ((begL s.data.toList sc : Int)=((decL s.data.toList).2 : Int)):=by show _=_;rw [hbs,if_pos ⟨hst,hl⟩]
      clear hbs e1 hst
      generalize ((decL s.data.toList).1 : Int)=r at *
      generalize ((decL s.data.toList).2 : Int)=n at *
      rcases c3 with rfl | c3
      ·go_enter Tryz.func61,Tryz.ntmps61
       go_wp2_with (first
        | (go_at_call 63;refine (hh _).mono ?_;rintro e W ⟨rfl,rfl⟩)
        | (go_at_call 96;refine (refLetter_any _ _).mono ?_;rintro e W ⟨rfl,rfl⟩;rw [hl]))
       go_ret
       exact ⟨by rw [HB.out];rfl,rfl⟩
      ·go_enter Tryz.func61,Tryz.ntmps61
       go_wp2_with (first
        | (go_at_call 63;refine (hh _).mono ?_;rintro e W ⟨rfl,rfl⟩)
        | (go_at_call 96;refine (refLetter_any _ _).mono ?_;rintro e W ⟨rfl,rfl⟩;rw [hl]))
       all_goals (go_ret;exact ⟨by rw [HB.out];rfl,rfl⟩)
    ·have e1 : headL s.data.toList=(1,-1):=by unfold headL;rw [hst];rfl
     rw [e1] at hh
     have HB : Hid (begL s.data.toList sc=0):=by show _=_;rw [hbs,if_neg (fun h=>by rw [hst] at h;cases h.1)]
     clear hbs e1 hst
     rcases c3 with rfl | c3
     ·go_enter Tryz.func61,Tryz.ntmps61
      go_wp2_with (go_at_call 63;refine (hh _).mono ?_;rintro e W ⟨rfl,rfl⟩)
      go_ret
      exact ⟨by rw [HB.out];rfl,rfl⟩
     ·go_enter Tryz.func61,Tryz.ntmps61
      go_wp2_with (go_at_call 63;refine (hh _).mono ?_;rintro e W ⟨rfl,rfl⟩)
      all_goals (go_ret;exact ⟨by rw [HB.out];rfl,rfl⟩)
theorem rdigit_any (r : Nat) (w : World) : Calls Tryz.prog 27 #[.int .u8 (r : Int)] w fun e w'=>e = .returned (.bool (digC r))∧w'=w:=by
 go_enter Tryz.func27,Tryz.ntmps27
 go_wp2
 all_goals go_ret
 all_goals (refine ⟨ret_bool ?_,rfl⟩;rw [Bool.eq_iff_iff];simp [digC] <;> omega)
end Go.Proofs.YthfkfbcopinmiaaGreatDoor
set_option linter.unusedVariables false
set_option maxHeartbeats 2000000
namespace Go.Proofs.YthfkfbcopinmiaaGreatDoor
open Go.RowKit
theorem drop_run (s : ByteArray) (n : Nat) (h : n ≤ s.size) (W : World) : (Instr.slice 9 (.string s) (some (.int .i64 (n : Int))) none none).run Tryz.prog W = .ok (.string (s.extract n s.size)) W:=by
 have h1 : (n : Int) ≤ (s.size : Int):=by omega
 go_simp
theorem atL_drop (l : Bs) (n k : Nat) : atL (l.drop n) k=atL l (n+k):=by
 unfold atL
 rw [List.getD_eq_getElem?_getD,List.getElem?_drop,← List.getD_eq_getElem?_getD]
theorem name_any (s : ByteArray) (sc : Bool) (w : World) (hs : s.size ≤ 140737488355328) : Calls Tryz.prog 25 #[.string s,.bool sc] w fun e w'=>e = .returned (.int .i64 (nameL s.data.toList sc : Nat))∧w'=w:=by
 have hm : s.size ≤ maxLen:=by unfold maxLen;omega
 have hb0:=fun W=>begins_any s sc W hm
 by_cases h0 : begL s.data.toList sc=0
 ·have HN : Hid (nameL s.data.toList sc=0):=by show _=_;unfold nameL;rw [if_pos h0]
  rw [h0] at hb0
  clear h0
  go_enter Tryz.func25,Tryz.ntmps25
  go_wp2_with (go_at_call 61;refine (hb0 _).mono ?_;rintro e W ⟨rfl,rfl⟩)
  go_ret
  exact ⟨by rw [HN.out];rfl,rfl⟩
 ·have hbl:=begL_le s.data.toList sc
  rw [← Lib.size_eq] at hbl
  have HN : Hid (nameL s.data.toList sc=begL s.data.toList sc+tailL (s.data.toList.drop (begL s.data.toList sc)) sc):=by show _=_;unfold nameL;rw [if_neg h0]
  obtain ⟨b,hb⟩ : ∃ b,b=begL s.data.toList sc:=⟨_,rfl⟩
  rw [← hb] at hb0 h0 hbl HN
  clear hb
  have hbi : ((b : Int) == 0)=false:=int_eqb (by omega)
  go_enter Tryz.func25,Tryz.ntmps25
  go_wp2_with (go_at_call 61;refine (hb0 _).mono ?_;rintro e W ⟨rfl,rfl⟩)
  go_loopw [5] (fun v5 W'=>∃ k : Nat,v5 = .int .i64 k∧b ≤ k∧k ≤ s.size∧W'=W∧Hid (nameL s.data.toList sc=k+tailL (s.data.toList.drop k) sc)) (fun v5 _=>s.size - (intOf v5).toNat)
  case atStart=>exact ⟨b,rfl,Nat.le_refl _,hbl,rfl,HN⟩
  case round =>
   obtain ⟨k,rfl,hbk,hk,rfl,hh⟩:=hrel
   by_cases hkl : k < s.size
   ·have hkl2 : (k : Int) < (s.size : Int):=by omega
    have hsl:=drop_run s k (by omega)
    have hxl : (s.extract k s.size).data.toList=s.data.toList.drop k:=drop_extract s k
    have hxs : (s.extract k s.size).size ≤ maxLen:=by rw [Lib.size_eq,hxl,List.length_drop,← Lib.size_eq];omega
    have hby:=byteI s k hkl
    have hat : atL s.data.toList k=atL (s.data.toList.drop k) 0:=by rw [atL_drop];rfl
    rw [hat] at hby
    have hne : s.data.toList.drop k ≠ []:=drop_ne s k hkl
    have hon:=onL_le (s.data.toList.drop k) sc
    rw [List.length_drop,← Lib.size_eq] at hon
    have hte:=tailL_eq (s.data.toList.drop k) sc
    have hb1:=fun W=>begins_any (s.extract k s.size) sc W hxs
    rw [hxl] at hb1
    have hod : onL (s.data.toList.drop k) sc=if begL (s.data.toList.drop k) sc ≠ 0 then begL (s.data.toList.drop k) sc else if digC (atL (s.data.toList.drop k) 0)=true then 1 else 0:=by
     unfold onL
     simp [hne]
    have hd1:=fun W=>rdigit_any (atL (s.data.toList.drop k) 0) W
    obtain ⟨o,ho⟩ : ∃ o,o=onL (s.data.toList.drop k) sc:=⟨_,rfl⟩
    have HH : Hid (nameL s.data.toList sc=k+(if o=0 then 0 else o+tailL (s.data.toList.drop (k+o)) sc)):=by
     show _=_
     rw [hh.out,hte,← ho,List.drop_drop]
    rw [← ho] at hod hon
    clear hte hh ho hat hne hxl hxs
    generalize atL (s.data.toList.drop k) 0=c at *
    generalize s.extract k s.size=X at *
    by_cases g0 : begL (s.data.toList.drop k) sc=0
    ·rw [g0] at hb1 hod
     cases gd : digC c
     ·have o0 : o=0:=by rw [hod,gd];rfl
      rw [gd] at hd1
      have HR : Hid (nameL s.data.toList sc=k):=by show _=_;rw [HH.out,if_pos o0];rfl
      clear hod HH g0
      go_wp2_with (first
       | (go_at_call 61;refine (hb1 _).mono ?_;rintro e W ⟨rfl,rfl⟩)
       | (go_at_call 27;refine (hd1 _).mono ?_;rintro e W ⟨rfl,rfl⟩))
      go_ret
      exact ⟨ret_int (by rw [HR.out]),rfl⟩
     ·have o1 : o=1:=by rw [hod,gd];rfl
      rw [gd] at hd1
      have HR : Hid (nameL s.data.toList sc=(k+1)+tailL (s.data.toList.drop (k+1)) sc):=by show _=_;rw [HH.out,o1];simp;omega
      clear hod HH g0
      go_wp2_with (first
       | (go_at_call 61;refine (hb1 _).mono ?_;rintro e W ⟨rfl,rfl⟩)
       | (go_at_call 27;refine (hd1 _).mono ?_;rintro e W ⟨rfl,rfl⟩))
      go_roundw
      case rel=>exact ⟨k+1,by simp,by omega,by omega,by simp,HR⟩
      case measure=>simp [intOf];omega
    ·have o1 : o=begL (s.data.toList.drop k) sc:=by rw [hod,if_pos g0]
     rw [← o1] at hb1 g0
     have gi : ((o : Int) == 0)=false:=int_eqb (by omega)
     have HR : Hid (nameL s.data.toList sc=(k+o)+tailL (s.data.toList.drop (k+o)) sc):=by show _=_;rw [HH.out,if_neg g0];omega
     clear hod HH o1
     go_wp2_with (go_at_call 61;refine (hb1 _).mono ?_;rintro e W ⟨rfl,rfl⟩)
     go_roundw
     case rel=>exact ⟨k+o,by simp,by omega,by omega,by simp,HR⟩
     case measure=>simp [intOf];omega
   ·have hkl2 : ¬ (k : Int) < (s.size : Int):=by omega
    have HR : Hid (nameL s.data.toList sc=k):=by
     show _=_
     rw [hh.out,drop_end s k hkl]
     rfl
    clear hh
    go_wp2
    go_ret
    exact ⟨ret_int (by rw [HR.out]),rfl⟩
theorem past_blank {l : Bs} {i : Nat} {c : UInt8} (hi : l[i]?=some c) (h : isBl c=true) : pastL (l.drop i)=((pastL (l.drop (i+1))).1+1,(pastL (l.drop (i+1))).2):=by
 obtain ⟨hl,e⟩:=List.getElem?_eq_some_iff.1 hi
 rw [List.drop_eq_getElem_cons hl,pastL_cons,e,if_pos h]
theorem past_line {l : Bs} {i : Nat} (hi : l[i]?=some 47) (h2 : l[i+1]?=some 47) : pastL (l.drop i)=((pastL (l.drop (i+lineL (l.drop i)))).1+lineL (l.drop i),(pastL (l.drop (i+lineL (l.drop i)))).2):=by
 obtain ⟨hl,e⟩:=List.getElem?_eq_some_iff.1 hi
 have hh : (l.drop (i+1)).head?=some 47:=by rw [List.head?_drop];exact h2
 have hll : lineL (l.drop i)=lineL (l.drop (i+1))+1:=by
  rw [List.drop_eq_getElem_cons hl,e]
  simp [lineL]
 rw [hll]
 conv=>lhs;rw [List.drop_eq_getElem_cons hl,pastL_cons,e]
 rw [if_neg (by decide),if_pos ⟨rfl,hh⟩,List.drop_drop]
 rw [show i+1+lineL (l.drop (i+1))=i+(lineL (l.drop (i+1))+1) from by omega]
theorem past_note {l : Bs} {i : Nat} (hi : l[i]?=some 47) (h2 : l[i+1]?=some 42) : pastL (l.drop i)=match noteL (l.drop (i+2)) with
 | none=>(0,false)
 | some k=>((pastL (l.drop (i+2+k))).1+(k+2),(pastL (l.drop (i+2+k))).2):=by
 obtain ⟨hl,e⟩:=List.getElem?_eq_some_iff.1 hi
 have hh : (l.drop (i+1)).head?=some 42:=by rw [List.head?_drop];exact h2
 have ht : (l.drop (i+1)).tail=l.drop (i+2):=by rw [List.tail_drop]
 conv=>lhs;rw [List.drop_eq_getElem_cons hl,pastL_cons,e]
 rw [if_neg (by decide),if_neg (by rw [hh];simp),if_pos ⟨rfl,hh⟩,ht]
 simp only [List.drop_drop] <;> cases noteL (l.drop (i+2)) <;> rfl
theorem past_stop {l : Bs} {i : Nat} {c : UInt8} (hi : l[i]?=some c) (h : isBl c=false) (h1 : ¬ (c=47∧l[i+1]?=some 47)) (h2 : ¬ (c=47∧l[i+1]?=some 42)) : pastL (l.drop i)=(0,true):=by
 obtain ⟨hl,e⟩:=List.getElem?_eq_some_iff.1 hi
 rw [List.drop_eq_getElem_cons hl,pastL_cons,e,if_neg (by rw [h];simp),List.head?_drop,if_neg h1,if_neg h2]
theorem lineL_go {l : Bs} {j : Nat} {c : UInt8} (hj : l[j]?=some c) (hc : c ≠ 10) : lineL (l.drop j)=lineL (l.drop (j+1))+1:=by
 obtain ⟨hl,e⟩:=List.getElem?_eq_some_iff.1 hj
 rw [List.drop_eq_getElem_cons hl,e]
 simp [lineL,hc]
theorem lineL_end {l : Bs} {j : Nat} (h : l[j]?=some 10 ∨ l.length ≤ j) : lineL (l.drop j)=0:=by
 rcases h with h | h
 ·obtain ⟨hl,e⟩:=List.getElem?_eq_some_iff.1 h
  rw [List.drop_eq_getElem_cons hl,e]
  simp [lineL]
 ·rw [List.drop_eq_nil_of_le h];rfl
theorem noteL_go {l : Bs} {j : Nat} {c : UInt8} (hj : l[j]?=some c) (hc : ¬ (c=42∧l[j+1]?=some 47)) : noteL (l.drop j)=(noteL (l.drop (j+1))).map (· + 1):=by
 obtain ⟨hl,e⟩:=List.getElem?_eq_some_iff.1 hj
 rw [List.drop_eq_getElem_cons hl,e]
 simp only [noteL,List.head?_drop,if_neg hc]
theorem noteL_hit {l : Bs} {j : Nat} (hj : l[j]?=some 42) (hc : l[j+1]?=some 47) : noteL (l.drop j)=some 2:=by
 obtain ⟨hl,e⟩:=List.getElem?_eq_some_iff.1 hj
 rw [List.drop_eq_getElem_cons hl,e]
 simp [noteL,List.head?_drop,hc]
theorem noteL_out {l : Bs} {j : Nat} (h : l.length ≤ j+1) : noteL (l.drop j)=none:=by
 cases hd : l.drop j with
 | nil=>rfl
 | cons c r =>
  have : r=[]:=by
   have h1:=congrArg List.length hd
   simp at h1
   exact List.eq_nil_of_length_eq_zero (by omega)
  subst this
  simp [noteL]
theorem byteO (s : ByteArray) (k : Nat) (h : k < s.size) : s.data.toList[k]?=some s[k]:=by
 rw [Array.getElem?_toList]
 exact Array.getElem?_eq_getElem h
theorem u8_eq {c : UInt8} {n : Nat} (hn : n < 256) (h : ((c.toNat : Nat) : Int)=(n : Int)) : c=UInt8.ofNat n:=by
 apply UInt8.toNat_inj.1
 rw [UInt8.toNat_ofNat']
 omega
theorem isBl_of (c : UInt8) : isBl c=(decide (((c.toNat : Nat) : Int)=9) || decide (((c.toNat : Nat) : Int)=10) || decide (((c.toNat : Nat) : Int)=13) || decide (((c.toNat : Nat) : Int)=32)):=by
 have h : ∀ k : Fin 256,isBl (UInt8.ofNat k.val)=(decide ((((UInt8.ofNat k.val).toNat : Nat) : Int)=9) || decide ((((UInt8.ofNat k.val).toNat : Nat) : Int)=10) || decide ((((UInt8.ofNat k.val).toNat : Nat) : Int)=13) || decide ((((UInt8.ofNat k.val).toNat : Nat) : Int)=32)):=by decide +kernel
 have:=h ⟨c.toNat,c.toNat_lt⟩
 simpa using this
end Go.Proofs.YthfkfbcopinmiaaGreatDoor
