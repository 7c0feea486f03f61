/- Own text. Forms of kinds,and where a kind may stand: package tree. The rules of kinds: package tree. (Its rows are written by a program of our own from the rules' text.) Where a kind may stand: package tree. Plain mathematics of texts as runes: a text of bytes cut into runes,and bytes that belong to none. Plain mathematics of texts in quotes: what stands for each rune of a text. Plain mathematics of the runes between two places of a text. A rune cut out of a text is that rune by itself. The contracts of stray,Valid and Count of package runes,over a text cut into runes. Which texts may stand: package tree,with the words of package lex and the runes of package runes. -/
import Derived.Test.YtfcocoadaajbjaaGreatDoorGd04
import Derived.Lib.RuneCount
import Derived.Lib.Strings
import Derived.Lib.RuneBytes
import Derived.Test.YtfcocoadaajbjaaGreatDoorShelf
import Derived.Test.YtfcocoadaajbjaaGreatDoorGd05
import Derived.WalkKit
import Derived.Laws.RangeString
import Derived.Laws.RangeAny
import Derived.LoopTactic
import Derived.Laws.Tables
set_option linter.unusedVariables false
set_option maxHeartbeats 8000000
namespace Go.Proofs.YtfcocoadaajbjaaGreatDoor
open Go.RowKit
def formK (k : Int) : Int :=
 if k=1 ∨ k=2 ∨ k=3 ∨ k=4 ∨ k=5 ∨ k=6 ∨ k=7 ∨ k=8 ∨ k=9 ∨ k=11 ∨ k=15 ∨ k=16 ∨ k=17 ∨ k=18 ∨ k=19 ∨ k=20 ∨ k=21 ∨ k=22 then 1
 else if k=30 ∨ k=31 ∨ k=32 ∨ k=33 ∨ k=35 then 2
 else if k=40 ∨ k=41 ∨ k=47 ∨ k=48 ∨ k=49 ∨ k=50 ∨ k=51 ∨ k=52 then 3
 else if k=42 ∨ k=46 ∨ k=60 ∨ k=62 ∨ k=63 ∨ k=64 then 4
 else if k=68 then 5
 else if k=69 then 6
 else 0
theorem formOf_any (k : Int) (w : World) : Calls Tryz.prog 29 #[.int .i64 k] w fun e w'=>e = .returned (.int .i64 (formK k))∧w'=w:=by
 go_enter Tryz.func29,Tryz.ntmps29
 go_wp2
 all_goals go_ret
 all_goals exact ⟨by simp_all [formK],rfl⟩
end Go.Proofs.YtfcocoadaajbjaaGreatDoor
namespace Go.Proofs.YtfcocoadaajbjaaGreatDoor
open Go.RowKit
def standsK (p k : Int) : Bool :=
 if p=101 then (formK k == 1)
 else if p=102 then (formK k == 1) || (k == 14)
 else if p=103 then (k == 6) || (k == 21) || (k == 22)
 else if p=104 then (formK k == 2)
 else if p=105 then (formK k == 2) && (k != 32)
 else if p=106 then (formK k == 2) || (k == 14)
 else if p=107 then (formK k == 3)
 else if p=108 then (k == 52) || (k == 14)
 else if p=109 then (formK k == 3) || (formK k == 4)
 else if p=110 then (formK k == 3) || (k == 42) || (k == 66)
 else if p=111 then (k == 40) || (k == 41) || (k == 42) || (k == 46)
 else if p=112 then (formK k == 1) || (k == 41) || (k == 42)
 else if p=113 then (k == 43) || (k == 44) || (k == 45)
 else if p=114 then (k == 14)
 else (p == k)
structure Rul where
 t : Int
 m : Int
 ks : List Int
 r : Int
def exprR (k : Int) : Rul :=
 if k=1 then ⟨0,9007199254740991,[],0⟩ else
 if k=2 then ⟨6,0,[],0⟩ else
 if k=3 then ⟨0,1,[],0⟩ else
 if k=6 then ⟨1,0,[],0⟩ else
 if k=8 then ⟨0,0,[],101⟩ else
 if k=9 then ⟨0,0,[],10⟩ else
 if k=11 then ⟨0,0,[12,106,52],0⟩ else
 if k=15 then ⟨7,0,[101],0⟩ else
 if k=16 then ⟨8,0,[101,101],0⟩ else
 if k=17 then ⟨0,0,[101,101,101],0⟩ else
 if k=18 then ⟨0,0,[103,101],0⟩ else
 if k=19 then ⟨0,0,[101],101⟩ else
 if k=20 then ⟨1,0,[],101⟩ else
 if k=21 then ⟨2,0,[101],0⟩ else
 if k=22 then ⟨0,0,[101,101],0⟩ else
 ⟨0,0,[],0⟩
def typeR (k : Int) : Rul :=
 if k=31 then ⟨0,0,[104],0⟩ else
 if k=32 then ⟨0,0,[105,105],105⟩ else
 if k=33 then ⟨0,0,[],34⟩ else
 if k=35 then ⟨0,0,[12,104],0⟩ else
 ⟨5,0,[],0⟩
def stmtR (k : Int) : Rul :=
 if k=40 then ⟨1,1,[106,101],0⟩ else
 if k=41 then ⟨1,0,[12,106,52],0⟩ else
 if k=48 then ⟨0,0,[101,52,108],0⟩ else
 if k=49 then ⟨0,0,[101,52],0⟩ else
 if k=50 then ⟨0,0,[102],0⟩ else
 if k=52 then ⟨0,0,[],107⟩ else
 ⟨0,0,[101],0⟩
def itemR (k : Int) : Rul :=
 if k=42 then ⟨1,0,[],113⟩ else
 if k=46 then ⟨1,0,[104],0⟩ else
 if k=60 then ⟨6,1,[],61⟩ else
 if k=62 then ⟨0,0,[111],0⟩ else
 if k=63 then ⟨0,0,[112],0⟩ else
 ⟨6,1,[65],65⟩
def partR (k : Int) : Option Rul :=
 if k=14 then some ⟨0,0,[],0⟩ else
 if k=10 then some ⟨2,0,[101],0⟩ else
 if k=12 then some ⟨0,0,[],13⟩ else
 if k=13 then some ⟨1,0,[106],0⟩ else
 if k=34 then some ⟨2,0,[104],0⟩ else
 if k=43 then some ⟨3,0,[106,101],0⟩ else
 if k=44 then some ⟨0,0,[12,52],0⟩ else
 if k=45 then some ⟨3,0,[12,106,52],0⟩ else
 if k=61 then some ⟨4,0,[6],0⟩ else
 if k=65 then some ⟨4,0,[114],0⟩ else
 if k=66 then some ⟨1,0,[],67⟩ else
 if k=67 then some ⟨2,0,[6],0⟩ else
 none
def ruleK (k : Int) : Option Rul :=
 if formK k=1 then some (exprR k) else if formK k=2 then some (typeR k) else if formK k=3 then some (stmtR k) else if formK k=4 then some (itemR k)
 else if formK k=5 then some ⟨0,0,[],109⟩ else if formK k=6 then some ⟨0,0,[],110⟩ else partR k
def PAt (w : World) (v : Value) (ks : List Int) : Prop:=(ks=[]∧v = .slice none 0 0) ∨ ∃ bl t,v = .slice (some ⟨bl,0,none⟩) ks.length ks.length∧w.heap[bl]?=some (.cells (ks.map (Value.int .i64)).toArray t (0,0))
theorem PAt.bel {w w' : World} {v : Value} {ks : List Int} (h : PAt w v ks) (b : Below w.heap.size w w') : PAt w' v ks:=by
 rcases h with h | ⟨bl,t,h1,h2⟩
 ·exact .inl h
 ·exact .inr ⟨bl,t,h1,(b.block bl (Array.getElem?_eq_some_iff.1 h2).1).trans h2⟩
theorem PAt.sl {w : World} {v : Value} {ks : List Int} (h : PAt w v ks) : ∃ a,v = .slice a ks.length ks.length:=by
 rcases h with ⟨rfl,rfl⟩ | ⟨bl,t,h1,_⟩
 ·exact ⟨none,rfl⟩
 ·exact ⟨_,h1⟩
def Rul.v (r : Rul) (v : Value) : Value:=.agg #[.int .i64 r.t,.int .i64 r.m,v,.int .i64 r.r]
theorem res_rule {fn : Func} {p : Nat} (h : fn.results=#[.cell p 97]) {W : World} {n : Nat} {a b c d : Value} {t : TypeId} {tmps : Array Value} (hb : W.heap[n]?=some (.cells #[a,b,c,d] t (0,0))) (ht : tmps[p]?.getD undef = .pointer (some ⟨n,0,none⟩)) :
 (results fn tmps).run Tryz.prog W = .ok (.agg #[a,b,c,d]) W:=by
 obtain ⟨⟨c0,c1,c2,c3⟩,_⟩:=box4 hb
 simp [results,h,go_sem,ht,c0,c1,c2,c3]
theorem res_rule2 {fn : Func} {p q : Nat} (h : fn.results=#[.cell p 97,.tmp q]) {W : World} {n : Nat} {a b c d : Value} {t : TypeId} {tmps : Array Value} (hb : W.heap[n]?=some (.cells #[a,b,c,d] t (0,0))) (ht : tmps[p]?.getD undef = .pointer (some ⟨n,0,none⟩)) :
 (results fn tmps).run Tryz.prog W = .ok (.tuple #[.agg #[a,b,c,d],tmps.getD q undef]) W:=by
 obtain ⟨⟨c0,c1,c2,c3⟩,_⟩:=box4 hb
 simp [results,h,go_sem,ht,c0,c1,c2,c3]
def RulAns (w : World) (r : Rul) (e : Ending) (w' : World) : Prop:=∃ v,e = .returned (r.v v)∧PAt w' v r.ks∧Below w.heap.size w w'
def RulAns2 (w : World) (o : Option Rul) (e : Ending) (w' : World) : Prop:=∃ (r : Rul) (b : Bool) (v : Value),e = .returned (.tuple #[r.v v,.bool b])∧(b=true→o=some r)∧(b=false→o=none)∧PAt w' v r.ks∧Below w.heap.size w w'
theorem bel_aa (w : World) (o o' : Obj) : Below w.heap.size w ((w.alloc o).alloc o'):=(bel_a w o).alloc (by simp) o'
end Go.Proofs.YtfcocoadaajbjaaGreatDoor
set_option linter.unusedVariables false
set_option maxHeartbeats 8000000
namespace Go.Proofs.YtfcocoadaajbjaaGreatDoor
open Go.RowKit
theorem ret_b {a b : Bool} (h : a=b) : Ending.returned (.bool a) = .returned (.bool b):=by rw [h]
theorem stands_any (p k : Int) (w : World) : Calls Tryz.prog 109 #[.int .i64 p,.int .i64 k] w fun e w'=>e = .returned (.bool (standsK p k))∧w'=w:=by
 have hf:=formOf_any k
 unfold standsK
 generalize formK k=f at *
 go_enter Tryz.func109,Tryz.ntmps109
 go_wp2_with (go_at_call 29;refine (hf _).mono ?_;rintro e w' ⟨rfl,rfl⟩)
 all_goals go_ret
 all_goals exact ⟨ret_b (by clear hf;simp_all),rfl⟩
end Go.Proofs.YtfcocoadaajbjaaGreatDoor
namespace Go.Proofs.YtfcocoadaajbjaaGreatDoor
def atL (l : List UInt8) (k : Nat) : Nat:=(l.getD k 0).toNat
def contL (l : List UInt8) (k : Nat) : Bool:=decide (k < l.length) && (atL l k / 64 == 2)
def decL (l : List UInt8) : Nat × Nat :=
 if atL l 0 < 128 then (atL l 0,1)
 else if atL l 0 / 32 == 6 && contL l 1 then
  if atL l 0 % 32 * 64+atL l 1 % 64 ≥ 128 then (atL l 0 % 32 * 64+atL l 1 % 64,2) else (65533,1)
 else if atL l 0 / 16 == 14 && contL l 1 && contL l 2 then
  if atL l 0 % 16 * 4096+atL l 1 % 64 * 64+atL l 2 % 64 ≥ 2048 && Utf8.valid ((atL l 0 % 16 * 4096+atL l 1 % 64 * 64+atL l 2 % 64 : Nat) : Int) then (atL l 0 % 16 * 4096+atL l 1 % 64 * 64+atL l 2 % 64,3) else (65533,1)
 else if atL l 0 / 8 == 30 && contL l 1 && contL l 2 && contL l 3 then
  if atL l 0 % 8 * 262144+atL l 1 % 64 * 4096+atL l 2 % 64 * 64+atL l 3 % 64 ≥ 65536 && Utf8.valid ((atL l 0 % 8 * 262144+atL l 1 % 64 * 4096+atL l 2 % 64 * 64+atL l 3 % 64 : Nat) : Int) then (atL l 0 % 8 * 262144+atL l 1 % 64 * 4096+atL l 2 % 64 * 64+atL l 3 % 64,4) else (65533,1)
 else (65533,1)
theorem get_drop (s : ByteArray) (i k : Nat) : (s.get! (i+k)).toNat=atL (s.data.toList.drop i) k:=by
 unfold atL
 congr 1
 rw [List.getD_eq_getElem?_getD,List.getElem?_drop,Array.getElem?_toList]
 show s.data[i+k]! = _
 rw [getElem!_def]
 cases s.data[i+k]? <;> rfl
theorem decode_eq (s : ByteArray) (i : Nat) : Utf8.decode s i=decL (s.data.toList.drop i):=by
 have hc : ∀ k,decide (i+k < s.size)=decide (k < (s.data.toList.drop i).length):=by
  intro k
  simp only [List.length_drop,Array.length_toList]
  have e : s.size=s.data.size:=rfl
  rw [e,decide_eq_decide]
  omega
 simp only [Utf8.decode,decL,contL,get_drop,hc,Utf8.runeError]
 rfl
theorem atL_lt (l : List UInt8) (k : Nat) : atL l k < 256:=(l.getD k 0).toNat_lt
theorem decL_width (l : List UInt8) : 1 ≤ (decL l).2∧(decL l).2 ≤ 4:=by
 unfold decL
 repeat' split
 all_goals simp
theorem decL_le (l : List UInt8) (h : l ≠ []) : (decL l).2 ≤ l.length:=by
 have h0 : 1 ≤ l.length:=by cases l <;> simp_all
 unfold decL contL
 repeat' split
 all_goals simp_all
 all_goals omega
def scanF : Nat→List UInt8→List (Nat × List UInt8)
 | 0,_=>[]
 | f+1,l=>if l=[] then [] else ((decL l).1,l.take (decL l).2) :: scanF f (l.drop (decL l).2)
def scan (l : List UInt8) : List (Nat × List UInt8):=scanF l.length l
theorem scanF_more (l : List UInt8) : ∀ f g,l.length ≤ f→l.length ≤ g→scanF f l=scanF g l:=by
 intro f
 induction f generalizing l with
 | zero=>intro g hf _;cases l <;> cases g <;> simp_all [scanF]
 | succ f ih =>
  intro g hf hg
  by_cases hl : l=[]
  ·subst hl;cases g <;> simp [scanF]
  ·have hw:=decL_width l
   have : 1 ≤ l.length:=by cases l <;> simp_all
   cases g with
   | zero=>omega
   | succ g =>
    simp only [scanF,if_neg hl]
    rw [ih (l.drop (decL l).2) g (by simp;omega) (by simp;omega)]
theorem scan_nil : scan []=[]:=rfl
theorem scan_cons (l : List UInt8) (h : l ≠ []) : scan l=((decL l).1,l.take (decL l).2) :: scan (l.drop (decL l).2):=by
 have hw:=decL_width l
 have hl : 1 ≤ l.length:=by cases l <;> simp_all
 unfold scan
 obtain ⟨n,hn⟩ : ∃ n,l.length=n+1:=⟨l.length - 1,by omega⟩
 rw [hn]
 simp only [scanF,if_neg h]
 rw [scanF_more _ n _ (by simp;omega) (Nat.le_refl _)]
def strayL (l : List UInt8) : Bool:=(decL l).1 == 65533 && (decL l).2 == 1
def strayP (x : Nat × List UInt8) : Bool:=x.1 == 65533 && x.2.length == 1
theorem strayL_eq (l : List UInt8) (h : l ≠ []) : strayL l=strayP ((decL l).1,l.take (decL l).2):=by
 have:=decL_le l h
 simp [strayL,strayP,Nat.min_eq_left this]
def validL (l : List UInt8) : Bool:=(scan l).all fun x=>!strayP x
theorem validL_nil : validL []=true:=rfl
theorem validL_stray (l : List UInt8) (h : l ≠ []) (hs : strayL l=true) : validL l=false:=by
 rw [validL,scan_cons l h,List.all_cons,← strayL_eq l h,hs];rfl
theorem validL_rune (l : List UInt8) (h : l ≠ []) (hs : strayL l=false) : validL l=validL (l.drop (decL l).2):=by
 rw [validL,scan_cons l h,List.all_cons,← strayL_eq l h,hs];rfl
theorem prefix_bytes (l : List UInt8) : Lib.hasPrefix l [239,191,189]=(decide (2 < l.length) && (atL l 0 == 239) && (atL l 1 == 191) && (atL l 2 == 189)):=by
 unfold Lib.hasPrefix atL
 match l with
 | []=>rfl
 | [a]=>simp [List.isPrefixOf]
 | [a,b]=>simp [List.isPrefixOf]
 | a :: b :: c :: r =>
  rw [Bool.eq_iff_iff]
  simp [List.isPrefixOf]
  constructor
  ·rintro ⟨rfl,rfl,rfl⟩
   simp
  ·rintro ⟨⟨h0,h1⟩,h2⟩
   exact ⟨(UInt8.toNat_inj.1 (by rw [h0];rfl)),(UInt8.toNat_inj.1 (by rw [h1];rfl)),(UInt8.toNat_inj.1 (by rw [h2];rfl))⟩
theorem prefix_stray (l : List UInt8) (h : (decL l).1=65533) : (Lib.hasPrefix l [239,191,189]) = !((decL l).2 == 1):=by
 have hb:=atL_lt l 0
 have hb1:=atL_lt l 1
 have hb2:=atL_lt l 2
 rw [prefix_bytes,Bool.eq_iff_iff]
 revert h
 unfold decL contL
 repeat' split
 all_goals simp_all [Utf8.valid]
 all_goals omega
end Go.Proofs.YtfcocoadaajbjaaGreatDoor
namespace Go.Proofs.YtfcocoadaajbjaaGreatDoor
end Go.Proofs.YtfcocoadaajbjaaGreatDoor
namespace Go.Proofs.YtfcocoadaajbjaaGreatDoor
abbrev Rns := List (Nat × List UInt8)
def bytesOf (xs : Rns) : List UInt8:=xs.flatMap (·.2)
theorem bytesOf_cons (x : Nat × List UInt8) (ys : Rns) : bytesOf (x :: ys)=x.2 ++ bytesOf ys:=by simp [bytesOf]
theorem scan_induct (P : List UInt8→Prop) (h0 : P []) (h1 : ∀ l,l ≠ []→P (l.drop (decL l).2)→P l) : ∀ l,P l:=by
 intro l
 have : ∀ n,∀ l : List UInt8,l.length ≤ n→P l:=by
  intro n
  induction n with
  | zero=>intro l hl;have : l=[]:=List.eq_nil_of_length_eq_zero (by omega);subst this;exact h0
  | succ n ih =>
   intro l hl
   by_cases he : l=[]
   ·subst he;exact h0
   ·have:=(decL_width l).1
    exact h1 l he (ih _ (by rw [List.length_drop];omega))
 exact this l.length l (Nat.le_refl _)
theorem scan_bytes (l : List UInt8) : bytesOf (scan l)=l:=by
 refine scan_induct (fun l=>bytesOf (scan l)=l) rfl ?_ l
 intro l hl ih
 rw [scan_cons l hl,bytesOf_cons,ih]
 exact List.take_append_drop _ _
theorem scan_pos (l : List UInt8) : ∀ x ∈ scan l,x.2 ≠ []:=by
 refine scan_induct (fun l=>∀ x ∈ scan l,x.2 ≠ []) (fun x h=>by cases h) ?_ l
 intro l hl ih x hx
 rw [scan_cons l hl] at hx
 rcases List.mem_cons.1 hx with rfl | hx
 ·intro e
  have h1:=(decL_width l).1
  have h2:=decL_le l hl
  have:=congrArg List.length e
  simp at this
  rcases this with h | h
  ·omega
  ·exact hl h
 ·exact ih x hx
theorem scan_length (l : List UInt8) : (scan l).length ≤ l.length:=by
 refine scan_induct (fun l=>(scan l).length ≤ l.length) (Nat.le_refl _) ?_ l
 intro l hl ih
 have h1:=(decL_width l).1
 have h2:=decL_le l hl
 rw [scan_cons l hl,List.length_cons]
 rw [List.length_drop] at ih
 omega
def part (xs : Rns) (a b : Nat) : List UInt8:=bytesOf ((xs.take b).drop a)
end Go.Proofs.YtfcocoadaajbjaaGreatDoor
namespace Go.Proofs.YtfcocoadaajbjaaGreatDoor
theorem atL_take_lt (l : List UInt8) (n k : Nat) (h : k < n) : atL (l.take n) k=atL l k:=by
 unfold atL
 rw [List.getD_eq_getElem?_getD,List.getD_eq_getElem?_getD,List.getElem?_take_of_lt h]
theorem contL_take (l : List UInt8) (n k : Nat) (h : k < n) (hn : n ≤ l.length) : contL (l.take n) k=contL l k:=by
 unfold contL
 rw [atL_take_lt l n k h]
 congr 1
 rw [List.length_take,decide_eq_decide]
 omega
theorem contL_one (l : List UInt8) (k : Nat) (h : 1 ≤ k) : contL (l.take 1) k=false:=by
 unfold contL
 rw [List.length_take]
 have : decide (k < min 1 l.length)=false:=by simp;omega
 rw [this];rfl
theorem decL_one_bad (l : List UInt8) (h : ¬ atL l 0 < 128) : decL (l.take 1)=(65533,1):=by
 unfold decL
 rw [atL_take_lt l 1 0 (by omega),if_neg h,contL_one l 1 (by omega)]
 simp
theorem decL_take (l : List UInt8) (hne : l ≠ []) : decL (l.take (decL l).2)=decL l:=by
 have hle:=decL_le l hne
 obtain ⟨d,hd⟩ : ∃ d,decL l=d:=⟨_,rfl⟩
 rw [hd] at hle ⊢
 unfold decL at hd
 split at hd
 ·rename_i h1
  subst hd
  show decL (l.take 1)=_
  rw [decL,atL_take_lt l 1 0 (by omega),if_pos h1]
 rename_i h1
 split at hd
 ·rename_i h2
  split at hd
  ·rename_i h3
   subst hd
   replace hle : 2 ≤ l.length:=hle
   show decL (l.take 2)=_
   rw [decL,atL_take_lt l 2 0 (by omega),atL_take_lt l 2 1 (by omega),contL_take l 2 1 (by omega) hle,if_neg h1,if_pos h2,if_pos h3]
  ·subst hd
   exact decL_one_bad l h1
 rename_i h2
 split at hd
 ·rename_i h3
  split at hd
  ·rename_i h4
   subst hd
   replace hle : 3 ≤ l.length:=hle
   show decL (l.take 3)=_
   rw [decL,atL_take_lt l 3 0 (by omega),atL_take_lt l 3 1 (by omega),atL_take_lt l 3 2 (by omega),contL_take l 3 1 (by omega) hle,contL_take l 3 2 (by omega) hle,if_neg h1,if_neg h2,if_pos h3,if_pos h4]
  ·subst hd
   exact decL_one_bad l h1
 rename_i h3
 split at hd
 ·rename_i h4
  split at hd
  ·rename_i h5
   subst hd
   replace hle : 4 ≤ l.length:=hle
   show decL (l.take 4)=_
   rw [decL,atL_take_lt l 4 0 (by omega),atL_take_lt l 4 1 (by omega),atL_take_lt l 4 2 (by omega),atL_take_lt l 4 3 (by omega),contL_take l 4 1 (by omega) hle,contL_take l 4 2 (by omega) hle,contL_take l 4 3 (by omega) hle,if_neg h1,if_neg h2,if_neg h3,if_pos h4,if_pos h5]
  ·subst hd
   exact decL_one_bad l h1
 ·subst hd
  exact decL_one_bad l h1
theorem scan_dec (l : List UInt8) : ∀ x ∈ scan l,decL x.2=(x.1,x.2.length):=by
 refine scan_induct (fun l=>∀ x ∈ scan l,decL x.2=(x.1,x.2.length)) (fun x h=>by cases h) ?_ l
 intro l hl ih x hx
 rw [scan_cons l hl] at hx
 rcases List.mem_cons.1 hx with rfl | hx
 ·rw [decL_take l hl,List.length_take,Nat.min_eq_left (decL_le l hl)]
 ·exact ih x hx
theorem scan_stray (l : List UInt8) (x : Nat × List UInt8) (hx : x ∈ scan l) : strayL x.2=strayP x:=by
 rw [strayL,scan_dec l x hx];rfl
end Go.Proofs.YtfcocoadaajbjaaGreatDoor
set_option maxHeartbeats 1000000
namespace Go.Proofs.YtfcocoadaajbjaaGreatDoor
open Go.RowKit
theorem drop_extract (s : ByteArray) (i : Nat) : (s.extract i s.size).data.toList=s.data.toList.drop i:=by
 rw [ByteArray.data_extract]
 simp
 exact List.take_of_length_le (by simp)
theorem stray_any (s : ByteArray) (pos : Nat) (w : World) (h : pos < s.size) :
 Calls Tryz.prog 119 #[.string s,.int .i64 pos,.int .i32 (decL (s.data.toList.drop pos)).1] w fun e w'=>e = .returned (.bool (strayL (s.data.toList.drop pos)))∧w'=w:=by
 have hp:=prefix_stray (s.data.toList.drop pos)
 have HP : Hid (Lib.hasPrefix (s.extract pos s.size).data.toList [239,191,189]=Lib.hasPrefix (s.data.toList.drop pos) [239,191,189]):=by rw [drop_extract];trivial
 obtain ⟨d,hd⟩ : ∃ d,d=decL (s.data.toList.drop pos):=⟨_,rfl⟩
 have HD : Hid (strayL (s.data.toList.drop pos)=(d.1 == 65533 && d.2 == 1)):=by rw [strayL,← hd];trivial
 rw [← hd] at hp ⊢
 clear hd
 by_cases hr : d.1=65533
 ·have HQ : Hid (Lib.hasPrefix (s.extract pos s.size).data.toList [239,191,189] = !(d.2 == 1)):=HP.out.trans (hp hr)
  clear hp HP
  rw [HD.out]
  go_enter Tryz.func119,Tryz.ntmps119
  go_wp2_with (go_at_call 123;refine (Tryz.strings_HasPrefix _ _ _).mono ?_;rintro e w' ⟨rfl,rfl⟩)
  go_ret
  refine ⟨ret_bool ?_,rfl⟩
  have e:=HQ.out
  rw [drop_extract] at e
  rw [List.take_of_length_le (by rw [List.length_drop,Lib.size_eq];omega),e,hr]
  simp
 ·clear hp HP
  rw [HD.out]
  have hb : ((d.1 : Int) == 65533)=false:=by simp;omega
  go_enter Tryz.func119,Tryz.ntmps119
  go_wp2_with fail
  go_ret
  refine ⟨ret_bool ?_,rfl⟩
  simp [hr]
theorem drop_ne (s : ByteArray) (pos : Nat) (h : pos < s.size) : s.data.toList.drop pos ≠ []:=by
 intro e
 have:=congrArg List.length e
 rw [List.length_drop,← Lib.size_eq] at this
 simp at this
 omega
theorem drop_end (s : ByteArray) (pos : Nat) (h : ¬ pos < s.size) : s.data.toList.drop pos=[]:=by
 apply List.drop_of_length_le
 rw [← Lib.size_eq]
 omega
theorem width_le (s : ByteArray) (pos : Nat) (h : pos < s.size) : pos+(decL (s.data.toList.drop pos)).2 ≤ s.size:=by
 have:=decL_le _ (drop_ne s pos h)
 rw [List.length_drop,← Lib.size_eq] at this
 omega
theorem scan_drop (s : ByteArray) (pos : Nat) (h : pos < s.size) : scan (s.data.toList.drop pos)=((decL (s.data.toList.drop pos)).1,(s.data.toList.drop pos).take (decL (s.data.toList.drop pos)).2) :: scan (s.data.toList.drop (pos+(decL (s.data.toList.drop pos)).2)):=by
 rw [scan_cons _ (drop_ne s pos h),List.drop_drop]
theorem run_next_dec {P : Program} (w : World) (s : ByteArray) (pos : Nat) (ty : TypeId) (h : pos < s.size) :
 (Instr.next (.pointer (some ⟨w.heap.size,0,none⟩)) true ty).run P (w.iter s pos) =
  .ok (.tuple #[.bool true,.int .i64 pos,.int .i32 (decL (s.data.toList.drop pos)).1]) (w.iter s (pos+(decL (s.data.toList.drop pos)).2)):=by
 rw [← decode_eq]
 exact run_next_any w s pos ty h
theorem valid_any (s : ByteArray) (w : World) :
 Calls Tryz.prog 106 #[.string s] w fun e w'=>e = .returned (.bool (validL s.data.toList))∧Below w.heap.size w w':=by
 go_enter Tryz.func106,Tryz.ntmps106
 go_wp2
 go_loopw [] (fun w'=>∃ (pos : Nat),w'=w.iter s pos∧validL (s.data.toList.drop pos)=validL s.data.toList∧pos ≤ s.size) (fun w'=>s.size - w'.iterPos w.heap.size)
 case atStart=>exact ⟨0,rfl,by simp,by omega⟩
 case round =>
  obtain ⟨pos,rfl,hc,hb⟩:=hrel
  by_cases hp : pos < s.size
  ·have hnx : ∀ ty,(Instr.next (.pointer (some ⟨w.heap.size,0,none⟩)) true ty).run Tryz.prog (w.iter s pos)=_:=fun ty=>run_next_dec w s pos ty hp
   have hwd:=(decL_width (s.data.toList.drop pos)).1
   have hwl:=width_le s pos hp
   have HC : Hid (validL (s.data.toList.drop pos)=validL s.data.toList):=hc
   clear hc
   have hcall:=fun w1=>stray_any s pos w1 hp
   by_cases hst : strayL (s.data.toList.drop pos)=true
   ·rw [hst] at hcall
    go_wp2_with (go_at_call 119;refine (hcall _).mono ?_;rintro e w' ⟨rfl,rfl⟩)
    go_ret
    exact ⟨ret_bool (by rw [← HC.out,validL_stray _ (drop_ne s pos hp) hst]),(Below.refl _ w).alloc (Nat.le_refl _) _⟩
   ·have hst' : strayL (s.data.toList.drop pos)=false:=by simpa using hst
    rw [hst'] at hcall
    clear hst
    go_wp2_with (go_at_call 119;refine (hcall _).mono ?_;rintro e w' ⟨rfl,rfl⟩)
    go_roundw
    case rel=>exact ⟨_,rfl,by rw [← HC.out,validL_rune _ (drop_ne s pos hp) hst',List.drop_drop],hwl⟩
    case measure =>
     simp
     omega
  ·have hnx : ∀ ty,(Instr.next (.pointer (some ⟨w.heap.size,0,none⟩)) true ty).run Tryz.prog (w.iter s pos)=_:=fun ty=>run_next_end w s pos ty hp
   rw [drop_end s pos hp,validL_nil] at hc
   have HC : Hid (validL s.data.toList=true):=hc.symm
   clear hc
   go_wp2
   go_ret
   exact ⟨ret_bool (by rw [HC.out]),(Below.refl _ w).alloc (Nat.le_refl _) _⟩
set_option linter.unusedVariables false
set_option maxRecDepth 100000
set_option maxHeartbeats 4000000
def wordsF : List (List UInt8):=[[99,108,97,115,115],[99,111,110,115,116],[100,101,102,97,117,108,116],[101,108,115,101],[101,120,112,111,114,116],[102,97,108,115,101],[102,117,110,99,116,105,111,110],[105,102],[105,109,112,111,114,116],[108,101,116],[110,101,119],[110,117,108,108],[114,101,116,117,114,110],[116,104,105,115],[116,104,114,111,119],[116,114,117,101],[116,121,112,101,111,102],[117,110,100,101,102,105,110,101,100],[119,104,105,108,101]]
def textC (l : List (List UInt8)) : List Value:=l.map fun b=>.string ⟨b.toArray⟩
def WEnv (w : World) : Prop:=∃ t fr,w.heap[0]?=some (.cells (textC wordsF).toArray t fr)
def WAt (w : World) (v : Value) : Prop:=∃ bl t,v = .slice (some ⟨bl,0,none⟩) 19 19∧w.heap[bl]?=some (.cells (textC wordsF).toArray t (0,0))
theorem WAt.bel {w w' : World} {v : Value} (h : WAt w v) (b : Below w.heap.size w w') : WAt w' v:=by
 obtain ⟨bl,t,h1,h2⟩:=h
 exact ⟨bl,t,h1,(b.block bl (Array.getElem?_eq_some_iff.1 h2).1).trans h2⟩
theorem below_row {B : Nat} {a w : World} (h : Below B a w) {g : Nat} (hg : B ≤ g) (cs : Array Value) : Below B a (w.setRow g cs):=by
 refine h.trans ⟨rfl,rfl,rfl,by simp [World.setRow],fun k hk=>?_⟩
 simp only [World.setRow,Array.getElem?_modify]
 rw [if_neg (by omega)]
theorem ones_textC (l : List (List UInt8)) : (textC l).toArray.all (·.oneCell')=true:=by
 rw [Array.all_eq_true_iff_forall_mem]
 intro v hv
 simp only [List.mem_toArray,textC,List.mem_map] at hv
 obtain ⟨b,_,rfl⟩:=hv
 rfl
theorem wordsF_any (w : World) (he : WEnv w) : Calls Tryz.prog 27 #[] w fun e w'=>∃ v,e = .returned v∧WAt w' v∧Below w.heap.size w w':=by
 obtain ⟨tw,fw,hw⟩:=he
 have hwz : (Tryz.prog.info? 92).map (·.size)=some (textC wordsF).toArray.size:=by kernel_rfl
 have hone:=ones_textC wordsF
 have hVs : (textC wordsF).toArray.size=19:=rfl
 unfold WAt
 generalize (textC wordsF).toArray=V at *
 go_enter Tryz.func27,Tryz.ntmps27
 go_wp2_with (first
  | (refine wpList_load_row rfl 92 _ rfl 0 rfl tw _ fw _ hw Tryz.underlying92 rfl hwz ?_)
  | (refine wpList_store_row rfl 92 _ _ rfl w.heap.size V rfl rfl 92 _ (heap_alloc_new w _) hwz (by rw [hVs];rfl) hone ?_))
 go_ret
 exact ⟨_,rfl,⟨_,_,rfl,setRow_heap _ _ _ _ _ _ (heap_alloc_new w _)⟩,below_row ((Below.refl _ _).alloc (Nat.le_refl _) _) (Nat.le_refl _) _⟩
theorem bytes_toList (s : ByteArray) : s.toList=s.data.toList:=ByteArray.toList_eq s
theorem index_any (w : World) (v : Value) (s : ByteArray) (h : WAt w v) : Calls Tryz.prog 122 #[v,.string s] w fun e w'=>∃ i : Int,e = .returned (.int .i64 i)∧(0 ≤ i ↔ s.data.toList ∈ wordsF)∧w'=w:=by
 obtain ⟨bl,t,rfl,hb⟩:=h
 have hl : wordsF.length=19:=rfl
 have hcell : ∀ k (hk : k < wordsF.length),w.cell? ⟨bl,k,none⟩=some (.string ⟨wordsF[k].toArray⟩):=fun k hk=>by
  rw [cell_of_row w bl _ _ _ _ hb]
  simp [textC,List.getElem?_eq_getElem hk]
 clear hb
 generalize wordsF=L at *
 go_enter Tryz.func122,Tryz.ntmps122
 go_wp2
 go_loopw [8] (fun i wr=>∃ k : Nat,i = .int .i64 (k : Nat)∧k ≤ 19∧wr=w∧Hid (s.data.toList ∉ L.take k)) (fun i _=>19 - (intOf i).toNat)
 case atStart=>exact ⟨0,rfl,by omega,rfl,by simp [Hid]⟩
 case round =>
  obtain ⟨k,rfl,hk,rfl,HT⟩:=hrel
  by_cases hkl : k < 19
  ·have hc:=hcell k (by omega)
   have HS : Hid (L.take (k+1)=L.take k ++ [L[k]]):=List.take_succ_eq_append_getElem (by omega)
   have HM : Hid (L[k] ∈ L):=List.getElem_mem _
   clear hcell
   generalize L[k]=b at *
   by_cases he : s.data.toList=b
   ·have he2 : s.toList=b:=by rw [bytes_toList];exact he
    have HE : Hid (s.data.toList=b):=he
    clear he
    go_wp2
    go_ret
    exact ⟨_,rfl,⟨fun _=>HE.out ▸ HM.out,fun _=>by omega⟩,rfl⟩
   ·have HT' : Hid (s.data.toList ∉ L.take (k+1)):=by
     show _ ∉ _
     rw [HS.out,List.mem_append]
     rintro (h | h)
     ·exact HT.out h
     ·exact he (by simpa using h)
    clear HT HS
    have he2 : (s.toList == b)=false:=by rw [bytes_toList];simpa using he
    go_wp2
    go_roundw
    case rel=>exact ⟨k+1,by simp,by omega,by first | rfl | trivial,HT'⟩
    case measure=>simp [intOf];omega
  ·have e : L.take k=L:=List.take_of_length_le (by omega)
   rw [e] at HT
   go_wp2
   go_ret
   exact ⟨_,rfl,⟨fun h=>by omega,fun h=>absurd h HT.out⟩,rfl⟩
def isW (s : ByteArray) : Bool:=decide (s.data.toList ∈ wordsF)
theorem contains_any (w : World) (v : Value) (s : ByteArray) (h : WAt w v) : Calls Tryz.prog 116 #[v,.string s] w fun e w'=>e = .returned (.bool (isW s))∧w'=w:=by
 have hi:=index_any w v s h
 unfold isW
 go_enter Tryz.func116,Tryz.ntmps116
 go_wp2_with (go_at_call 122;refine hi.mono ?_;rintro e w' ⟨i,rfl,hi2,rfl⟩)
 all_goals go_ret
 all_goals exact ⟨ret_bool (by rw [Bool.eq_iff_iff];try simp [hi2]),rfl⟩
end Go.Proofs.YtfcocoadaajbjaaGreatDoor
