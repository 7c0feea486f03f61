/- Own text. Trees,and how they lie in memory. Names in scopes: the uses of a tree,and the document's walk (of the model;no program is named here). Names in scopes: the document's walk tells the uses of a tree,or an error (of the model;no program is named here). Names in scopes: the document's walk tells the uses of every tree,or an error (of the model;no program is named here). -/
import Derived.Test.YtfcocoadaajbjaaGreatDoorChecked
import Derived.WalkKit
import Derived.WalkSmall
import Derived.WalkLawsBesides
import Derived.Laws.Rows
import Derived.Maps.AppendAt
import Derived.Deep.RegionHeld3
import Derived.Handy
set_option linter.unusedVariables false
namespace Go.Proofs.YtfcocoadaajbjaaGreatDoor
open Go.RowKit
abbrev NqZ (W : World) (b : Nat) (k : Int) (t : ByteArray) (n : Int) (a : Option Addr) (l c : Nat) : Prop:=W.cell? ⟨b,0,none⟩=some (.int .i64 k)∧W.cell? ⟨b,1,none⟩=some (.string t)∧W.cell? ⟨b,2,none⟩=some (.int .i64 n)∧W.cell? ⟨b,3,none⟩=some (.slice a l c)
abbrev NqO (W : World) (b o : Nat) (k : Int) (t : ByteArray) (n : Int) (a : Option Addr) (l c : Nat) : Prop:=W.cell? ⟨b,o,none⟩=some (.int .i64 k)∧W.cell? ⟨b,o+1,none⟩=some (.string t)∧W.cell? ⟨b,o+2,none⟩=some (.int .i64 n)∧W.cell? ⟨b,o+3,none⟩=some (.slice a l c)
inductive Nd where
 | mk (k : Int) (t : ByteArray) (n : Int) (ks : List Nd)
def Nd.k : Nd→Int | .mk k _ _ _=>k
def Nd.t : Nd→ByteArray | .mk _ t _ _=>t
def Nd.n : Nd→Int | .mk _ _ n _=>n
def Nd.ks : Nd→List Nd | .mk _ _ _ ks=>ks
theorem Nd.ext' {x y : Nd} (h1 : x.k=y.k) (h2 : x.t=y.t) (h3 : x.n=y.n) (h4 : x.ks=y.ks) : x=y:=by
 cases x;cases y
 simp only [Nd.k,Nd.t,Nd.n,Nd.ks] at h1 h2 h3 h4
 subst h1 h2 h3 h4
 rfl
theorem Nd.ind {P : Nd→Prop} (h : ∀ x : Nd,(∀ y ∈ x.ks,P y)→P x) (x : Nd) : P x :=
 @Nd.rec P (fun ks=>∀ y ∈ ks,P y) (fun k t n ks ih=>h (.mk k t n ks) ih) (fun y hy=>by cases hy)
  (fun x xs hx hxs y hy=>by
   rcases List.mem_cons.1 hy with rfl | hy
   ·exact hx
   ·exact hxs y hy) x
mutual
def Nd.size : Nd→Nat
 | .mk _ _ _ ks=>1+sizes ks
def sizes : List Nd→Nat
 | []=>0
 | x :: xs=>x.size+sizes xs
end
mutual
def Nd.depth : Nd→Nat
 | .mk _ _ _ ks=>1+depths ks
def depths : List Nd→Nat
 | []=>0
 | x :: xs=>max x.depth (depths xs)
end
mutual
def Nd.flat : Nd→List Nd
 | .mk k t n ks=>.mk k t n ks :: flats ks
def flats : List Nd→List Nd
 | []=>[]
 | x :: xs=>x.flat ++ flats xs
end
theorem Nd.size_eq (x : Nd) : x.size=1+sizes x.ks:=by cases x;rw [Nd.size];rfl
theorem Nd.flat_eq (x : Nd) : x.flat=x :: flats x.ks:=by cases x;rw [Nd.flat];rfl
theorem sizes_nil : sizes []=0:=by rw [sizes]
theorem sizes_cons (x : Nd) (xs : List Nd) : sizes (x :: xs)=x.size+sizes xs:=by rw [sizes]
theorem flats_nil : flats []=[]:=by rw [flats]
theorem flats_cons (x : Nd) (xs : List Nd) : flats (x :: xs)=x.flat ++ flats xs:=by rw [flats]
theorem Nd.size_pos (x : Nd) : 1 ≤ x.size:=by rw [Nd.size_eq];omega
theorem sizes_append : ∀ a b : List Nd,sizes (a ++ b)=sizes a+sizes b
 | [],b=>by simp [sizes_nil]
 | x :: a,b=>by rw [List.cons_append,sizes_cons,sizes_cons,sizes_append a b];omega
theorem flats_append : ∀ a b : List Nd,flats (a ++ b)=flats a ++ flats b
 | [],b=>by simp [flats_nil]
 | x :: a,b=>by rw [List.cons_append,flats_cons,flats_cons,flats_append a b,List.append_assoc]
theorem sizes_len : ∀ l : List Nd,l.length ≤ sizes l
 | []=>by simp
 | x :: l=>by rw [sizes_cons,List.length_cons];have:=x.size_pos;have:=sizes_len l;omega
theorem sizes_mem : ∀ {l : List Nd} {x : Nd},x ∈ l→x.size ≤ sizes l
 | y :: l,x,h=>by
  rw [sizes_cons]
  rcases List.mem_cons.1 h with rfl | h
  ·omega
  ·have:=sizes_mem h;omega
theorem flats_len : ∀ l : List Nd,(∀ x ∈ l,x.flat.length=x.size)→(flats l).length=sizes l
 | [],_=>by rw [flats_nil,sizes_nil];rfl
 | x :: l,h=>by rw [flats_cons,sizes_cons,List.length_append,h x (by simp),flats_len l (fun y hy=>h y (by simp [hy]))]
theorem Nd.flat_len (x : Nd) : x.flat.length=x.size:=by
 induction x using Nd.ind with
 | h x ih=>rw [Nd.flat_eq,Nd.size_eq,List.length_cons,flats_len _ ih];omega
theorem Nd.kid_size (x : Nd) {i : Nat} (h : i < x.ks.length) : x.ks[i].size < x.size:=by
 have:=sizes_mem (List.getElem_mem h)
 rw [x.size_eq];omega
theorem take_sizes (l : List Nd) {i : Nat} (h : i < l.length) : sizes (l.take (i+1))=sizes (l.take i)+l[i].size:=by
 rw [List.take_succ_eq_append_getElem h,sizes_append,sizes_cons,sizes_nil];omega
theorem take_flats (l : List Nd) {i : Nat} (h : i < l.length) : flats (l.take (i+1))=flats (l.take i) ++ l[i].flat:=by
 rw [List.take_succ_eq_append_getElem h,flats_append,flats_cons,flats_nil,List.append_nil]
theorem take_sizes_le (l : List Nd) (i : Nat) : sizes (l.take i) ≤ sizes l:=by
 have : sizes (l.take i ++ l.drop i)=sizes l:=by rw [List.take_append_drop]
 rw [sizes_append] at this
 omega
def Nd.v (x : Nd) (v : Value) : Value:=.agg #[.int .i64 x.k,.string x.t,.int .i64 x.n,v]
def Four (w : World) (b o : Nat) (x : Nd) (v : Value) : Prop :=
 w.cell? ⟨b,o,none⟩=some (.int .i64 x.k)∧w.cell? ⟨b,o+1,none⟩=some (.string x.t)∧w.cell? ⟨b,o+2,none⟩=some (.int .i64 x.n)∧w.cell? ⟨b,o+3,none⟩=some v
theorem Four.of_block {w w' : World} {b o : Nat} {x : Nd} {v : Value} (h : Four w b o x v) (e : w'.heap[b]?=w.heap[b]?) : Four w' b o x v :=
 ⟨(World.cell?_of_block (a:=⟨b,_,none⟩) e).trans h.1,(World.cell?_of_block (a:=⟨b,_,none⟩) e).trans h.2.1,(World.cell?_of_block (a:=⟨b,_,none⟩) e).trans h.2.2.1,(World.cell?_of_block (a:=⟨b,_,none⟩) e).trans h.2.2.2⟩
theorem Four.lt {w : World} {b o : Nat} {x : Nd} {v : Value} (h : Four w b o x v) : b < w.heap.size:=World.block_lt_of_cell? w _ h.1
inductive LAt (w : World) (S : Nat→Prop) : Value→List Nd→Prop
 | nil (a : Option Addr) (c : Nat) : LAt w S (.slice a 0 c) []
 | row (bl o c : Nat) (ks : List Nd) (f : Nat→Value) (hS : S bl) (hb : bl < w.heap.size) (h4 : ∀ i (h : i < ks.length),Four w bl (o+i * 4) ks[i] (f i))
  (hk : ∀ i (h : i < ks.length),LAt w S (f i) ks[i].ks) : LAt w S (.slice (some ⟨bl,o,none⟩) ks.length c) ks
theorem LAt.op {w : World} {S : Nat→Prop} {v : Value} {ks : List Nd} (h : LAt w S v ks) : ∃ (a : Option Addr) (c bl o : Nat) (f : Nat→Value),v = .slice a ks.length c ∧
 (0 < ks.length→a=some ⟨bl,o,none⟩∧S bl∧bl < w.heap.size)∧(∀ i (h : i < ks.length),Four w bl (o+i * 4) ks[i] (f i))∧(∀ i (h : i < ks.length),LAt w S (f i) ks[i].ks):=by
 cases h with
 | nil a c=>exact ⟨a,c,0,0,fun _=>default,rfl,fun h=>by simp at h,fun i h=>by simp at h,fun i h=>by simp at h⟩
 | row bl o c ks f hS hb h4 hk=>exact ⟨_,c,bl,o,f,rfl,fun _=>⟨rfl,hS,hb⟩,h4,hk⟩
theorem LAt.keep {w w' : World} {S : Nat→Prop} {v : Value} {ks : List Nd} (h : LAt w S v ks) (hs : w.heap.size ≤ w'.heap.size) (hb : ∀ b,S b→b < w.heap.size→w'.heap[b]?=w.heap[b]?) : LAt w' S v ks:=by
 induction h with
 | nil a c=>exact .nil a c
 | row bl o c ks f hS hl h4 hk ih=>exact .row bl o c ks f hS (by omega) (fun i hi=>(h4 i hi).of_block (hb bl hS hl)) ih
theorem LAt.bel {w w' : World} {S : Nat→Prop} {v : Value} {ks : List Nd} (h : LAt w S v ks) (k : Below w.heap.size w w') : LAt w' S v ks:=h.keep k.size (fun b _ hb=>k.block b hb)
theorem LAt.mono {w : World} {S T : Nat→Prop} {v : Value} {ks : List Nd} (h : LAt w S v ks) (hT : ∀ b,S b→T b) : LAt w T v ks:=by
 induction h with
 | nil a c=>exact .nil a c
 | row bl o c ks f hS hl h4 hk ih=>exact .row bl o c ks f (hT bl hS) hl h4 ih
theorem bytes_eq {a b : ByteArray} : a=b ↔ a.toList=b.toList:=by
 constructor
 ·rintro rfl;rfl
 ·intro h
  have e : ∀ s : ByteArray,s.toList=s.data.toList:=fun s=>ByteArray.toList_eq s
  rw [e,e] at h
  cases a;cases b
  congr
  exact Array.toList_inj.1 h
set_option linter.unusedSimpArgs false
structure Tp where
 nm : ByteArray
 kd : Int
 at_ : Int
 it : Int
 cn : Bool
structure Us where
 at_ : Int
 kd : Int
 dc : Int
 nm : ByteArray
 ty : Bool
structure Lo where
 nm : ByteArray
 pl : Int
 fr : Bool
structure Dw where
 tops : List Tp
 uses : List Us
 locs : List Lo
 this : Bool
 ins : Bool
 at_ : Int
 er : Int
 exs : List ByteArray
def eqT (a b : ByteArray) : Bool:=a.toList == b.toList
def Dw.fail (w : Dw) (p e : Int) : Dw:=if w.er=0 ∨ p < w.at_ then { w with at_:=p,er:=e } else w
def topS (T : List Tp) (nm : ByteArray) : Option Tp:=T.find? fun t=>eqT t.nm nm
def locS (L : List Lo) (nm : ByteArray) : Option Lo:=L.reverse.find? fun t=>eqT t.nm nm
def bltB (nm : ByteArray) : Bool:=[[112,97,114,115,101],[112,114,105,110,116],[112,117,115,104],[114,101,97,100],[116,101,120,116]].any fun b=>nm.toList == b
def plnB (nm : ByteArray) : Bool:=[[110,117,109,98,101,114],[115,116,114,105,110,103],[98,111,111,108,101,97,110],[110,117,108,108],[117,110,100,101,102,105,110,101,100],[97,110,121]].any fun b=>nm.toList == b
def Dw.useTop (w : Dw) (nm : ByteArray) (p : Int) (b : Bool) : Dw × Bool:=match topS w.tops nm with
 | some t =>
  let w1:=if b=true∧t.kd=46 then w.fail p 91 else w
  ({ w1 with uses:=w1.uses ++ [⟨p,if t.kd=61 then 4 else 3,t.at_,nm,false⟩] },!t.cn)
 | none=>if b=true∧bltB nm=true then ({ w with uses:=w.uses ++ [⟨p,1,0,nm,false⟩] },false) else (w.fail p 91,true)
def Dw.use (w : Dw) (nm : ByteArray) (p : Int) : Dw × Bool:=match locS w.locs nm with
 | some l=>({ w with uses:=w.uses ++ [⟨p,2,l.pl,nm,false⟩] },l.fr)
 | none=>w.useTop nm p true
def Dw.useType (w : Dw) (nm : ByteArray) (p : Int) : Dw:=match topS w.tops nm with
 | some t=>if t.kd=46 ∨ t.kd=42 ∨ t.kd=61 then { w with uses:=w.uses ++ [⟨p,if t.kd=61 then 4 else 3,t.at_,nm,true⟩] } else w.fail p 91
 | none=>w.fail p 91
def decB (n : Nd) : Bool:=decide (n.k=40 ∨ n.k=41 ∨ n.k=13)
def Dw.hold : List Nd→Int→Nat→Dw→Dw
 | [],_,_,w=>w
 | n :: l,p,f,w =>
  let w1:=if decB n=true then
   let w0:=(w.locs.drop f).foldl (fun v c=>if eqT c.nm n.t=true then v.fail p 90 else v) w
   { w0 with locs:=w0.locs ++ [⟨n.t,p,decide (n.k=13 ∨ (n.k=40∧n.n=0))⟩] }
  else w
  Dw.hold l (p+n.size) f w1
mutual
def dwalk : Nd→Int→Dw→Dw
 | .mk k t n ks,p,w =>
  if k=6 then (w.use t p).1
  else if k=20 then dkids ks (p+1) (w.use t p).1
  else if k=30 then (if plnB t=true then w else w.useType t p)
  else if k=18 then (match ks with
   | []=>w
   | a :: r=>if a.k = 6 then
       let u:=w.use a.t (p+1)
       dkids r (p+2) (if u.2=true then u.1 else u.1.fail p 92)
    else dkids r (p+1+a.size) (dwalk a (p+1) w))
  else if k=7 then (if w.this=true then w else w.fail p 93)
  else if k=50 then dkids ks (p+1) (if w.ins=true then w else w.fail p 93)
  else if k=11 ∨ k=41 ∨ k=44 ∨ k=45 then
   let w1:=Dw.hold (match ks with | []=>[] | a :: _=>a.ks) (p+2) w.locs.length { w with this:=if k=11 then w.this else decide (k ≠ 41),ins:=true }
   let w2:=dkids ks (p+1) w1
   { w2 with locs:=w2.locs.take w.locs.length,this:=w.this,ins:=w.ins }
  else if k=43 then
   let w2:=dkids ks (p+1) { w with this:=true }
   { w2 with this:=w.this }
  else if k=52 then
   let w2:=dkids ks (p+1) (Dw.hold ks (p+1) w.locs.length w)
   { w2 with locs:=w2.locs.take w.locs.length }
  else if k=60 then w
  else if k=64 then (if t.toList=[] then dexps ks (p+1) w else w)
  else dkids ks (p+1) w
def dkids : List Nd→Int→Dw→Dw
 | [],_,w=>w
 | a :: r,p,w=>dkids r (p+a.size) (dwalk a p w)
def dexps : List Nd→Int→Dw→Dw
 | [],_,w=>w
 | a :: r,p,w=>dexps r (p+a.size) (w.useTop a.t p false).1
end
def useV (T : List Tp) (L : List Lo) (nm : ByteArray) (p : Int) : Option (Us × Bool):=match locS L nm with
 | some l=>some (⟨p,2,l.pl,nm,false⟩,l.fr)
 | none=>match topS T nm with
  | some t=>if t.kd=46 then none else some (⟨p,if t.kd=61 then 4 else 3,t.at_,nm,false⟩,!t.cn)
  | none=>if bltB nm=true then some (⟨p,1,0,nm,false⟩,false) else none
def useT (T : List Tp) (nm : ByteArray) (p : Int) : Option Us:=match topS T nm with
 | some t=>if t.kd=46 ∨ t.kd=42 ∨ t.kd=61 then some ⟨p,if t.kd=61 then 4 else 3,t.at_,nm,true⟩ else none
 | none=>none
def useX (T : List Tp) (nm : ByteArray) (p : Int) : Option Us:=match topS T nm with
 | some t=>some ⟨p,if t.kd=61 then 4 else 3,t.at_,nm,false⟩
 | none=>none
def held : List Nd→Int→List Lo
 | [],_=>[]
 | n :: l,p=>if decB n=true then ⟨n.t,p,decide (n.k=13 ∨ (n.k=40∧n.n=0))⟩ :: held l (p+n.size) else held l (p+n.size)
def inL (L : List Lo) (nm : ByteArray) : Bool:=L.any fun c=>eqT c.nm nm
def onceL : List Lo→List Lo→Bool
 | _,[]=>true
 | H,c :: r=>!inL H c.nm && onceL (H ++ [c]) r
def seq2 (r1 : Option (List Us)) (r2 : Option (List Us)) : Option (List Us):=r1.bind fun u=>r2.map fun v=>u ++ v
def parK : List Nd→List Nd
 | []=>[]
 | a :: _=>a.ks
mutual
def usN (T : List Tp) : List Lo→Bool→Bool→Nd→Int→Option (List Us)
 | L,th,ins,.mk k t n ks,p =>
  if k=6 then (useV T L t p).map fun x=>[x.1]
  else if k=20 then seq2 ((useV T L t p).map fun x=>[x.1]) (usL T L th ins ks (p+1))
  else if k=30 then (if plnB t=true then some [] else (useT T t p).map fun x=>[x])
  else if k=18 then (match ks with
   | []=>some []
   | a :: r=>if a.k=6 then seq2 ((useV T L a.t (p+1)).bind fun x=>if x.2=true then some [x.1] else none) (usL T L th ins r (p+2))
    else seq2 (usN T L th ins a (p+1)) (usL T L th ins r (p+1+a.size)))
  else if k=7 then (if th=true then some [] else none)
  else if k=50 then (if ins=true then usL T L th ins ks (p+1) else none)
  else if k=11 ∨ k=41 ∨ k=44 ∨ k=45 then
   (if onceL [] (held (parK ks) (p+2))=true then usL T (L ++ held (parK ks) (p+2)) (if k=11 then th else decide (k ≠ 41)) true ks (p+1) else none)
  else if k=43 then usL T L true ins ks (p+1)
  else if k=52 then (if onceL [] (held ks (p+1))=true then usL T (L ++ held ks (p+1)) th ins ks (p+1) else none)
  else if k=60 then some []
  else if k=64 then (if t.toList=[] then usX T ks (p+1) else some [])
  else usL T L th ins ks (p+1)
def usL (T : List Tp) : List Lo→Bool→Bool→List Nd→Int→Option (List Us)
 | L,th,ins,[],p=>some []
 | L,th,ins,a :: r,p=>seq2 (usN T L th ins a p) (usL T L th ins r (p+a.size))
def usX (T : List Tp) : List Nd→Int→Option (List Us)
 | [],_=>some []
 | a :: r,p=>seq2 ((useX T a.t p).map fun x=>[x]) (usX T r (p+a.size))
end
structure Fr (w w' : Dw) : Prop where
 tops : w'.tops=w.tops
 locs : w'.locs=w.locs
 this : w'.this=w.this
 ins : w'.ins=w.ins
 exs : w'.exs=w.exs
theorem Fr.refl (w : Dw) : Fr w w:=⟨rfl,rfl,rfl,rfl,rfl⟩
theorem Fr.trans {a b c : Dw} (h : Fr a b) (k : Fr b c) : Fr a c:=⟨k.tops.trans h.tops,k.locs.trans h.locs,k.this.trans h.this,k.ins.trans h.ins,k.exs.trans h.exs⟩
def Did (w w' : Dw) : Option (List Us)→Prop
 | some us=>w'={ w with uses:=w.uses ++ us }
 | none=>Fr w w'∧w'.er ≠ 0
theorem Did.fr {w w' : Dw} {r : Option (List Us)} (h : Did w w' r) : Fr w w':=by
 cases r with
 | some us=>have h : w'=_:=h;rw [h];exact ⟨rfl,rfl,rfl,rfl,rfl⟩
 | none=>exact h.1
theorem Did.er {w w' : Dw} {r : Option (List Us)} (h : Did w w' r) (he : w.er ≠ 0) : w'.er ≠ 0:=by
 cases r with
 | some us=>have h : w'=_:=h;rw [h];exact he
 | none=>exact h.2
theorem Did.seq {w w1 w2 : Dw} {r1 r2 : Option (List Us)} (h1 : Did w w1 r1) (h2 : Did w1 w2 r2) : Did w w2 (seq2 r1 r2):=by
 cases r1 with
 | none=>exact ⟨h1.fr.trans h2.fr,h2.er h1.2⟩
 | some u =>
  have e1 : w1=_:=h1
  cases r2 with
  | none=>exact ⟨h1.fr.trans h2.fr,h2.2⟩
  | some v =>
   have e2 : w2=_:=h2
   show w2=_
   rw [e2,e1]
   simp
theorem did_nil (w : Dw) : Did w w (some []):=by show w=_;simp
theorem fail_er (w : Dw) (p e : Int) (he : e ≠ 0) : (w.fail p e).er ≠ 0:=by
 unfold Dw.fail
 split
 ·exact he
 ·rename_i h
  exact fun q=>h (.inl q)
theorem fail_fr (w : Dw) (p e : Int) : Fr w (w.fail p e):=by
 unfold Dw.fail
 split <;> exact ⟨rfl,rfl,rfl,rfl,rfl⟩
theorem did_fail (w : Dw) (p e : Int) (he : e ≠ 0) : Did w (w.fail p e) none:=⟨fail_fr w p e,fail_er w p e he⟩
theorem use_did (w : Dw) (nm : ByteArray) (p : Int) : Did w (w.use nm p).1 ((useV w.tops w.locs nm p).map fun x=>[x.1])∧∀ x,useV w.tops w.locs nm p=some x→(w.use nm p).2=x.2:=by
 unfold Dw.use useV Dw.useTop
 cases locS w.locs nm with
 | some l=>exact ⟨rfl,fun x h=>by injection h with h;rw [← h]⟩
 | none =>
  simp only
  cases topS w.tops nm with
  | some t =>
   simp only
   by_cases q : t.kd=46
   ·rw [if_pos q]
    refine ⟨⟨?_,?_⟩,fun x h=>by cases h⟩
    ·rw [if_pos ⟨by trivial,q⟩]
     have:=fail_fr w p 91
     exact ⟨this.tops,this.locs,this.this,this.ins,this.exs⟩
    ·rw [if_pos ⟨by trivial,q⟩]
     exact fail_er w p 91 (by decide)
   ·rw [if_neg q,if_neg (fun h=>q h.2)]
    exact ⟨rfl,fun x h=>by injection h with h;rw [← h]⟩
  | none =>
   simp only
   by_cases q : bltB nm=true
   ·rw [if_pos q,if_pos ⟨by trivial,q⟩]
    exact ⟨rfl,fun x h=>by injection h with h;rw [← h]⟩
   ·rw [if_neg q,if_neg (fun h=>q h.2)]
    exact ⟨did_fail w p 91 (by decide),fun x h=>by cases h⟩
theorem useT_did (w : Dw) (nm : ByteArray) (p : Int) : Did w (w.useType nm p) ((useT w.tops nm p).map fun x=>[x]):=by
 unfold Dw.useType useT
 cases topS w.tops nm with
 | some t =>
  simp only
  by_cases q : t.kd=46 ∨ t.kd=42 ∨ t.kd=61
  ·rw [if_pos q,if_pos q];exact rfl
  ·rw [if_neg q,if_neg q];exact did_fail w p 91 (by decide)
 | none=>exact did_fail w p 91 (by decide)
theorem useX_did (w : Dw) (nm : ByteArray) (p : Int) : Did w (w.useTop nm p false).1 ((useX w.tops nm p).map fun x=>[x]):=by
 unfold Dw.useTop useX
 cases topS w.tops nm with
 | some t=>simp only;rw [if_neg (fun h=>by cases h.1)];exact rfl
 | none=>simp only;rw [if_neg (fun h=>by cases h.1)];exact did_fail w p 91 (by decide)
theorem fold_er (p : Int) (nm : ByteArray) : ∀ (l : List Lo) (w : Dw),Fr w (l.foldl (fun v c=>if eqT c.nm nm=true then v.fail p 90 else v) w)∧(w.er ≠ 0 ∨ inL l nm=true→(l.foldl (fun v c=>if eqT c.nm nm=true then v.fail p 90 else v) w).er ≠ 0)∧(inL l nm=false→l.foldl (fun v c=>if eqT c.nm nm=true then v.fail p 90 else v) w=w)
 | [],w=>⟨Fr.refl w,fun h=>h.elim id (fun h=>by cases h),fun _=>rfl⟩
 | c :: l,w=>by
  simp only [List.foldl_cons,inL,List.any_cons]
  by_cases q : eqT c.nm nm=true
  ·rw [if_pos q]
   obtain ⟨h1,h2,h3⟩:=fold_er p nm l (w.fail p 90)
   exact ⟨(fail_fr w p 90).trans h1,fun _=>h2 (.inl (fail_er w p 90 (by decide))),fun h=>by rw [q] at h;cases h⟩
  ·rw [if_neg q]
   obtain ⟨h1,h2,h3⟩:=fold_er p nm l w
   have q' : eqT c.nm nm=false:=by simpa using q
   rw [q',Bool.false_or]
   exact ⟨h1,h2,h3⟩
theorem hold_did : ∀ (l : List Nd) (p : Int) (f : Nat) (w : Dw),f ≤ w.locs.length→(∃ w',Dw.hold l p f w={ w' with locs:=w.locs ++ held l p }∧Fr w w'∧(w.er ≠ 0→w'.er ≠ 0)∧(onceL (w.locs.drop f) (held l p)=true→w'=w)∧(onceL (w.locs.drop f) (held l p)=false→w'.er ≠ 0))
 | [],p,f,w,hf=>⟨w,by simp [Dw.hold,held],Fr.refl w,id,fun _=>rfl,fun h=>by cases h⟩
 | n :: l,p,f,w,hf=>by
  unfold Dw.hold held
  by_cases q : decB n=true
  ·rw [if_pos q,if_pos q]
   obtain ⟨h1,h2,h3⟩:=fold_er p n.t (w.locs.drop f) w
   generalize hw0 : (w.locs.drop f).foldl (fun v c=>if eqT c.nm n.t=true then v.fail p 90 else v) w=w0 at *
   simp only
   obtain ⟨w',g1,g2,g3,g4,g5⟩:=hold_did l (p+n.size) f { w0 with locs:=w0.locs ++ [⟨n.t,p,decide (n.k=13 ∨ (n.k=40∧n.n=0))⟩] } (by simp only [List.length_append];rw [h1.locs];omega)
   have e1 : (w0.locs ++ [(⟨n.t,p,decide (n.k=13 ∨ (n.k=40∧n.n=0))⟩ : Lo)]).drop f=w.locs.drop f ++ [⟨n.t,p,decide (n.k=13 ∨ (n.k=40∧n.n=0))⟩]:=by
    rw [h1.locs,List.drop_append_of_le_length hf]
   simp only at g1 g2 g3 g4 g5
   rw [e1] at g4 g5
   refine ⟨{ w' with locs:=w.locs },?_,⟨g2.tops.trans h1.tops,rfl,g2.this.trans h1.this,g2.ins.trans h1.ins,g2.exs.trans h1.exs⟩,fun he=>g3 (h2 (.inl he)),fun ho=>?_,fun ho=>?_⟩
   ·rw [g1,h1.locs]
    simp
   ·simp only [onceL,Bool.and_eq_true,Bool.not_eq_true'] at ho
    have e2:=g4 ho.2
    have e3:=h3 ho.1
    rw [e2,e3]
   ·simp only [onceL,Bool.and_eq_false_iff,Bool.not_eq_false'] at ho
    rcases ho with ho | ho
    ·exact g3 (h2 (.inr ho))
    ·exact g5 ho
  ·rw [if_neg q,if_neg q]
   exact hold_did l (p+n.size) f w hf
set_option maxHeartbeats 1000000
theorem dexps_did : ∀ (ks : List Nd) (p : Int) (w : Dw),Did w (dexps ks p w) (usX w.tops ks p)
 | [],p,w=>by rw [dexps,usX];exact did_nil w
 | a :: r,p,w=>by
  rw [dexps,usX]
  have h1:=useX_did w a.t p
  have h2:=dexps_did r (p+a.size) (w.useTop a.t p false).1
  rw [h1.fr.tops] at h2
  exact h1.seq h2
theorem Did.back {w v v' : Dw} {us : Option (List Us)} (h : Did v v' us) (hu : v.uses=w.uses) (ht : v.tops=w.tops) (hx : v.exs=w.exs) (ha : v.at_=w.at_) (he : v.er=w.er) : Did w { v' with locs:=w.locs,this:=w.this,ins:=w.ins } us:=by
 cases us with
 | none=>exact ⟨⟨h.1.tops.trans ht,rfl,rfl,rfl,h.1.exs.trans hx⟩,h.2⟩
 | some u =>
  have h : v'=_:=h
  show _=_
  rw [h]
  obtain ⟨_,_,_,_,_,_,_,_⟩:=w
  simp only at hu ht hx ha he ⊢
  simp only [hu,ht,hx,ha,he]
theorem held_walk {ks : List Nd} (hk : ∀ p w,Did w (dkids ks p w) (usL w.tops w.locs w.this w.ins ks p)) (l : List Nd) (q p : Int) (w : Dw) (th ins : Bool) :
 Did w { (dkids ks p (Dw.hold l q w.locs.length { w with this:=th,ins:=ins })) with locs:=(dkids ks p (Dw.hold l q w.locs.length { w with this:=th,ins:=ins })).locs.take w.locs.length,this:=w.this,ins:=w.ins }
  (if onceL [] (held l q)=true then usL w.tops (w.locs ++ held l q) th ins ks p else none):=by
 obtain ⟨w',g1,g2,g3,g4,g5⟩:=hold_did l q w.locs.length { w with this:=th,ins:=ins } (Nat.le_refl _)
 simp only [List.drop_length] at g1 g2 g4 g5
 rw [g1]
 have hd : Did { w' with locs:=w.locs ++ held l q } (dkids ks p { w' with locs:=w.locs ++ held l q }) (usL w.tops (w.locs ++ held l q) th ins ks p):=by
  have e : usL w'.tops (w.locs ++ held l q) w'.this w'.ins ks p=usL w.tops (w.locs ++ held l q) th ins ks p:=by rw [g2.tops,g2.this,g2.ins]
  rw [← e]
  exact hk p _
 have hlo : (dkids ks p { w' with locs:=w.locs ++ held l q }).locs.take w.locs.length=w.locs:=by rw [hd.fr.locs];simp
 rw [hlo]
 cases ho : onceL [] (held l q) with
 | true =>
  rw [if_pos rfl]
  have e:=g4 ho
  subst e
  exact hd.back rfl rfl rfl rfl rfl
 | false =>
  rw [if_neg (by decide)]
  exact ⟨⟨hd.fr.tops.trans g2.tops,rfl,rfl,rfl,hd.fr.exs.trans g2.exs⟩,hd.er (g5 ho)⟩
theorem put3 (v : Dw) (L : List Lo) (T I : Bool) (h1 : v.locs=L) (h2 : v.ins=I) : ({ v with locs:=L,this:=T,ins:=I } : Dw)={ v with this:=T }:=by subst h1 h2;rfl
theorem put1 (v : Dw) (L : List Lo) (T I : Bool) (h1 : v.this=T) (h2 : v.ins=I) : ({ v with locs:=L,this:=T,ins:=I } : Dw)={ v with locs:=L }:=by subst h1 h2;rfl
theorem dwalk_mk (k : Int) (t : ByteArray) (n : Int) (ks : List Nd) (hk : ∀ p w,Did w (dkids ks p w) (usL w.tops w.locs w.this w.ins ks p))
 (hh : ∀ a r,ks=a :: r→(∀ p w,Did w (dwalk a p w) (usN w.tops w.locs w.this w.ins a p))∧∀ p w,Did w (dkids r p w) (usL w.tops w.locs w.this w.ins r p)) (p : Int) (w : Dw) : Did w (dwalk (.mk k t n ks) p w) (usN w.tops w.locs w.this w.ins (.mk k t n ks) p):=by
 rw [dwalk.eq_def,usN.eq_def]
 simp only
 by_cases h6 : k=6
 ·rw [if_pos h6,if_pos h6];exact (use_did w t p).1
 rw [if_neg h6,if_neg h6]
 by_cases h20 : k=20
 ·rw [if_pos h20,if_pos h20]
  have h1:=(use_did w t p).1
  have h2:=hk (p+1) (w.use t p).1
  rw [h1.fr.tops,h1.fr.locs,h1.fr.this,h1.fr.ins] at h2
  exact h1.seq h2
 rw [if_neg h20,if_neg h20]
 by_cases h30 : k=30
 ·rw [if_pos h30,if_pos h30]
  by_cases q : plnB t=true
  ·rw [if_pos q,if_pos q];exact did_nil w
  ·rw [if_neg q,if_neg q];exact useT_did w t p
 rw [if_neg h30,if_neg h30]
 by_cases h18 : k=18
 ·rw [if_pos h18,if_pos h18]
  cases ks with
  | nil=>exact did_nil w
  | cons a r =>
   obtain ⟨ha,hr⟩:=hh a r rfl
   simp only
   by_cases q : a.k=6
   ·rw [if_pos q,if_pos q]
    obtain ⟨h1,h2⟩:=use_did w a.t (p+1)
    have h3 : Did w (if (w.use a.t (p+1)).2=true then (w.use a.t (p+1)).1 else (w.use a.t (p+1)).1.fail p 92) ((useV w.tops w.locs a.t (p+1)).bind fun x=>if x.2=true then some [x.1] else none):=by
     cases hu : useV w.tops w.locs a.t (p+1) with
     | none =>
      rw [hu] at h1
      by_cases f : (w.use a.t (p+1)).2=true
      ·rw [if_pos f];exact h1
      ·rw [if_neg f];exact ⟨h1.fr.trans (fail_fr _ p 92),fail_er _ p 92 (by decide)⟩
     | some x =>
      rw [hu] at h1
      rw [h2 x hu]
      simp only [Option.bind_some]
      by_cases f : x.2=true
      ·rw [if_pos f,if_pos f];exact h1
      ·rw [if_neg f,if_neg f];exact ⟨h1.fr.trans (fail_fr _ p 92),fail_er _ p 92 (by decide)⟩
    have h4:=hr (p+2) (if (w.use a.t (p+1)).2=true then (w.use a.t (p+1)).1 else (w.use a.t (p+1)).1.fail p 92)
    rw [h3.fr.tops,h3.fr.locs,h3.fr.this,h3.fr.ins] at h4
    exact h3.seq h4
   ·rw [if_neg q,if_neg q]
    have h3:=ha (p+1) w
    have h4:=hr (p+1+a.size) (dwalk a (p+1) w)
    rw [h3.fr.tops,h3.fr.locs,h3.fr.this,h3.fr.ins] at h4
    exact h3.seq h4
 rw [if_neg h18,if_neg h18]
 by_cases h7 : k=7
 ·rw [if_pos h7,if_pos h7]
  by_cases q : w.this=true
  ·rw [if_pos q,if_pos q];exact did_nil w
  ·rw [if_neg q,if_neg q];exact did_fail w p 93 (by decide)
 rw [if_neg h7,if_neg h7]
 by_cases h50 : k=50
 ·rw [if_pos h50,if_pos h50]
  by_cases q : w.ins=true
  ·rw [if_pos q,if_pos q];exact hk (p+1) w
  ·rw [if_neg q,if_neg q]
   have h1:=did_fail w p 93 (by decide)
   have h2:=hk (p+1) (w.fail p 93)
   exact ⟨h1.1.trans h2.fr,h2.er h1.2⟩
 rw [if_neg h50,if_neg h50]
 by_cases hf : k=11 ∨ k=41 ∨ k=44 ∨ k=45
 ·rw [if_pos hf,if_pos hf]
  have:=held_walk hk (parK ks) (p+2) (p+1) w (if k=11 then w.this else decide (k ≠ 41)) true
  cases ks <;> exact this
 rw [if_neg hf,if_neg hf]
 by_cases h43 : k=43
 ·rw [if_pos h43,if_pos h43]
  have h1:=hk (p+1) { w with this:=true }
  simp only at h1
  have h2:=h1.back (w:=w) rfl rfl rfl rfl rfl
  rw [put3 _ _ _ _ h1.fr.locs h1.fr.ins] at h2
  exact h2
 rw [if_neg h43,if_neg h43]
 by_cases h52 : k=52
 ·rw [if_pos h52,if_pos h52]
  have h1 : Did w { (dkids ks (p+1) (Dw.hold ks (p+1) w.locs.length w)) with locs:=(dkids ks (p+1) (Dw.hold ks (p+1) w.locs.length w)).locs.take w.locs.length,this:=w.this,ins:=w.ins } (if onceL [] (held ks (p+1))=true then usL w.tops (w.locs ++ held ks (p+1)) w.this w.ins ks (p+1) else none):=held_walk hk ks (p+1) (p+1) w w.this w.ins
  obtain ⟨w',g1,g2,_⟩:=hold_did ks (p+1) w.locs.length w (Nat.le_refl _)
  have f:=(hk (p+1) (Dw.hold ks (p+1) w.locs.length w)).fr
  have f1 : (dkids ks (p+1) (Dw.hold ks (p+1) w.locs.length w)).this=w.this:=by rw [f.this,g1];exact g2.this
  have f2 : (dkids ks (p+1) (Dw.hold ks (p+1) w.locs.length w)).ins=w.ins:=by rw [f.ins,g1];exact g2.ins
  rw [put1 _ _ _ _ f1 f2] at h1
  exact h1
 rw [if_neg h52,if_neg h52]
 by_cases h60 : k=60
 ·rw [if_pos h60,if_pos h60];exact did_nil w
 rw [if_neg h60,if_neg h60]
 by_cases h64 : k=64
 ·rw [if_pos h64,if_pos h64]
  by_cases q : t.toList=[]
  ·rw [if_pos q,if_pos q];exact dexps_did ks (p+1) w
  ·rw [if_neg q,if_neg q];exact did_nil w
 rw [if_neg h64,if_neg h64]
 exact hk (p+1) w
theorem dwalk_did (x : Nd) : ∀ p w,Did w (dwalk x p w) (usN w.tops w.locs w.this w.ins x p) :=
 @Nd.rec (fun x=>∀ p w,Did w (dwalk x p w) (usN w.tops w.locs w.this w.ins x p))
  (fun ks=>(∀ p w,Did w (dkids ks p w) (usL w.tops w.locs w.this w.ins ks p))∧∀ a r,ks=a :: r→(∀ p w,Did w (dwalk a p w) (usN w.tops w.locs w.this w.ins a p))∧∀ p w,Did w (dkids r p w) (usL w.tops w.locs w.this w.ins r p))
  (fun k t n ks ih=>dwalk_mk k t n ks ih.1 ih.2)
  ⟨fun p w=>by rw [dkids,usL];exact did_nil w,fun a r h=>by cases h⟩
  (fun a r ha hr=>⟨fun p w=>by
   rw [dkids,usL]
   have h1:=ha p w
   have h2:=hr.1 (p+a.size) (dwalk a p w)
   rw [h1.fr.tops,h1.fr.locs,h1.fr.this,h1.fr.ins] at h2
   exact h1.seq h2,fun a' r' h=>by injection h with e1 e2;subst e1 e2;exact ⟨ha,hr.1⟩⟩) x
theorem dkids_did : ∀ (ks : List Nd) (p : Int) (w : Dw),Did w (dkids ks p w) (usL w.tops w.locs w.this w.ins ks p)
 | [],p,w=>by rw [dkids,usL];exact did_nil w
 | a :: r,p,w=>by
  rw [dkids,usL]
  have h1:=dwalk_did a p w
  have h2:=dkids_did r (p+a.size) (dwalk a p w)
  rw [h1.fr.tops,h1.fr.locs,h1.fr.this,h1.fr.ins] at h2
  exact h1.seq h2
end Go.Proofs.YtfcocoadaajbjaaGreatDoor
